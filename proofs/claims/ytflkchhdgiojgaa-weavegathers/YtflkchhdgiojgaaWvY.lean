/- The walk of WeaveGathers over the seat's translation. -/
import Derived.Test.YtflkchhdgiojgaaWvT
import Derived.Test.YtflkchhdgiojgaaSmA
namespace Go.Proofs.Ytflkchhdgiojgaa
open Go.RowKit

/-- The program's answer: elements and an error. -/
def Gives (fn : Nat) (f t : Int) (es xs : List (Nat × Nat)) (k : Int) : Prop := ∀ (w : World) (a : Option Addr) (cap : Nat), es.length ≤ cap → ERow w a es →
  Calls Try.prog fn #[.int .i64 f, .int .i64 t, .slice a es.length cap] w fun e w' => ∃ a' cap', e = .returned (.tuple #[.slice a' xs.length cap', .int .i64 k]) ∧ xs.length ≤ cap' ∧ ERow w' a' xs ∧ Below w.heap.size w w'
/-- The document's. -/
def GivesR (fn : Nat) (f t : Int) (es xs : List (Nat × Nat)) (k : Int) : Prop := ∀ (w : World) (a : Option Addr) (cap : Nat), ERow w a es →
  Calls Try.prog fn #[.int .i64 f, .int .i64 t, .slice a es.length cap] w fun e w' => ∃ a' cap', e = .returned (.tuple #[.slice a' xs.length cap', .int .i64 k]) ∧ ERow w' a' xs ∧ Below w.heap.size w w'
set_option maxHeartbeats 1000000 in
theorem wg_long (f t : Int) (a : Option Addr) (n cap : Nat) (hn : 140 < n) (W : World) :
    Calls Try.prog 5 #[.int .i64 f, .int .i64 t, .slice a n cap] W fun e w' => e = .returned (.bool true) ∧ Below W.heap.size W w' := by
  have h1 : (140 : Int) < (n : Int) := by omega
  have AW := awake9
  go_enter Try.func5, Try.ntmps5
  go_wp2_with fail
  refine (AW.go _).mono ?_
  rintro e w1 ⟨rfl, hb1⟩
  go_wp2
  go_ret
  exact ⟨rfl, hb1⟩
set_option maxHeartbeats 4000000 in
set_option maxRecDepth 100000 in
theorem wg_core (f t : Int) (a : Option Addr) (cap : Nat) (es xs ys : List (Nat × Nat)) (kg ks : Int) (hn : es.length ≤ 140) (hx : xs.length ≤ 100000) (hy : ys.length ≤ 100000) (hc : es.length ≤ cap) (W : World) (hr : ERow W a es)
    (wg : IntKind.i64.wrap kg = kg) (ws : IntKind.i64.wrap ks = ks)
    (G : Hid (Gives 18 f t es xs kg)) (RG : Hid (GivesR 19 f t es xs kg)) (S : Hid (Gives 20 f t es ys ks)) (RS : Hid (GivesR 21 f t es ys ks))
    (SX : Hid (kg = 0 → Gives 20 f t xs es 0)) (GY : Hid (ks = 0 → Gives 18 f t ys es 0)) :
    Calls Try.prog 5 #[.int .i64 f, .int .i64 t, .slice a es.length cap] W fun e w' => e = .returned (.bool true) ∧ Below W.heap.size W w' := by
  have h1 : ¬ (140 : Int) < (es.length : Int) := by omega
  have AW : Hid (Ret 7 #[] (.bool true)) := awake9
  have HR : Hid (ERow W a es) := hr
  clear hr
  go_enter Try.func5, Try.ntmps5
  go_wp2_with fail
  refine (G.out W a cap hc HR.out).mono ?_
  rintro e w1 ⟨ax, capx, rfl, hcx, hX, hb1⟩
  have HX1 : Hid (ERow w1 ax xs) := hX
  have B1 : Hid (Below W.heap.size W w1) := hb1
  clear hX hb1
  go_wp2_with fail
  refine (ref_row a cap es (by omega) w1 (HR.out.below B1.out)).mono ?_
  rintro e w2 ⟨ar, capr, rfl, hE, hb2⟩
  have HX2 : Hid (ERow w2 ax xs) := HX1.out.below hb2
  have B2 : Hid (Below W.heap.size W w2) := B1.out.trans (hb2.mono B1.out.size)
  have HE : Hid (ERow w2 ar es) := hE
  clear hE hb2 HX1 B1
  go_wp2_with fail
  refine (RG.out w2 ar capr HE.out).mono ?_
  rintro e w3 ⟨ax', capx', rfl, hX, hb3⟩
  have HX3 : Hid (ERow w3 ax xs) := HX2.out.below hb3
  have HX3' : Hid (ERow w3 ax' xs) := hX
  have B3 : Hid (Below W.heap.size W w3) := B2.out.trans (hb3.mono B2.out.size)
  clear hX hb3 HX2 B2 HE
  go_wp2_with fail
  refine (S.out w3 a cap hc (HR.out.below B3.out)).mono ?_
  rintro e w4 ⟨ay, capy, rfl, hcy, hY, hb4⟩
  have HX4 : Hid (ERow w4 ax xs) := HX3.out.below hb4
  have HX4' : Hid (ERow w4 ax' xs) := HX3'.out.below hb4
  have HY4 : Hid (ERow w4 ay ys) := hY
  have B4 : Hid (Below W.heap.size W w4) := B3.out.trans (hb4.mono B3.out.size)
  clear hY hb4 HX3 HX3' B3
  go_wp2_with fail
  refine (ref_row a cap es (by omega) w4 (HR.out.below B4.out)).mono ?_
  rintro e w5 ⟨ar5, capr5, rfl, hE, hb5⟩
  have HX5 : Hid (ERow w5 ax xs) := HX4.out.below hb5
  have HX5' : Hid (ERow w5 ax' xs) := HX4'.out.below hb5
  have HY5 : Hid (ERow w5 ay ys) := HY4.out.below hb5
  have B5 : Hid (Below W.heap.size W w5) := B4.out.trans (hb5.mono B4.out.size)
  have HE : Hid (ERow w5 ar5 es) := hE
  clear hE hb5 HX4 HX4' HY4 B4
  go_wp2_with fail
  refine (RS.out w5 ar5 capr5 HE.out).mono ?_
  rintro e w6 ⟨ay', capy', rfl, hY, hb6⟩
  have HX6 : Hid (ERow w6 ax xs) := HX5.out.below hb6
  have HX6' : Hid (ERow w6 ax' xs) := HX5'.out.below hb6
  have HY6 : Hid (ERow w6 ay ys) := HY5.out.below hb6
  have HY6' : Hid (ERow w6 ay' ys) := hY
  have B6 : Hid (Below W.heap.size W w6) := B5.out.trans (hb6.mono B5.out.size)
  clear hY hb6 HX5 HX5' HY5 B5 HE G RG S RS
  go_wp2_with fail
  refine (same_rows ax ax' capx capx' xs hx w6 HX6.out HX6'.out).mono ?_
  rintro e w7 ⟨rfl, hb7⟩
  have HX7 : Hid (ERow w7 ax xs) := HX6.out.below hb7
  have HY7 : Hid (ERow w7 ay ys) := HY6.out.below hb7
  have HY7' : Hid (ERow w7 ay' ys) := HY6'.out.below hb7
  have B7 : Hid (Below W.heap.size W w7) := B6.out.trans (hb7.mono B6.out.size)
  clear hb7 HX6 HX6' HY6 HY6' B6
  go_wp2_with fail
  refine (same_rows ay ay' capy capy' ys hy w7 HY7.out HY7'.out).mono ?_
  rintro e w8 ⟨rfl, hb8⟩
  have HX8 : Hid (ERow w8 ax xs) := HX7.out.below hb8
  have HY8 : Hid (ERow w8 ay ys) := HY7.out.below hb8
  have B8 : Hid (Below W.heap.size W w8) := B7.out.trans (hb8.mono B7.out.size)
  clear hb8 HX7 HY7 HY7' B7
  by_cases hg : kg = 0
  · subst hg
    have SX0 : Hid (Gives 20 f t xs es 0) := SX.out rfl
    clear SX
    go_wp2_with fail
    refine (SX0.out _ ax capx hcx HX8.out).mono ?_
    rintro e w9 ⟨az, capz, rfl, _, hZ, hb9⟩
    have HZ9 : Hid (ERow w9 az es) := hZ
    have HY9 : Hid (ERow w9 ay ys) := HY8.out.below hb9
    have B9 : Hid (Below W.heap.size W w9) := B8.out.trans (hb9.mono B8.out.size)
    clear hZ hb9 HX8 HY8 B8
    go_wp2_with fail
    refine (ref_row a cap es (by omega) w9 (HR.out.below B9.out)).mono ?_
    rintro e w10 ⟨ar10, capr10, rfl, hE, hb10⟩
    have HZ10 : Hid (ERow w10 az es) := HZ9.out.below hb10
    have HY10 : Hid (ERow w10 ay ys) := HY9.out.below hb10
    have HE10 : Hid (ERow w10 ar10 es) := hE
    have B10 : Hid (Below W.heap.size W w10) := B9.out.trans (hb10.mono B9.out.size)
    clear hE hb10 HZ9 HY9 B9
    go_wp2_with fail
    refine (same_rows az ar10 capz capr10 es (by omega) w10 HZ10.out HE10.out).mono ?_
    rintro e w11 ⟨rfl, hb11⟩
    have HY11 : Hid (ERow w11 ay ys) := HY10.out.below hb11
    have B11 : Hid (Below W.heap.size W w11) := B10.out.trans (hb11.mono B10.out.size)
    clear hb11 HZ10 HY10 HE10 B10
    by_cases hs : ks = 0
    · subst hs
      have GY0 : Hid (Gives 18 f t ys es 0) := GY.out rfl
      clear GY
      go_wp2_with fail
      refine (GY0.out _ ay capy hcy HY11.out).mono ?_
      rintro e v1 ⟨ag, capg, rfl, _, hG, hc1⟩
      have HG1 : Hid (ERow v1 ag es) := hG
      have C1 : Hid (Below W.heap.size W v1) := B11.out.trans (hc1.mono B11.out.size)
      clear hG hc1 HY11 B11
      go_wp2_with fail
      refine (AW.out.go _).mono ?_
      rintro e v2 ⟨rfl, hc2⟩
      have HG2 : Hid (ERow v2 ag es) := HG1.out.below hc2
      have C2 : Hid (Below W.heap.size W v2) := C1.out.trans (hc2.mono C1.out.size)
      clear hc2 HG1 C1
      go_wp2_with fail
      refine (ref_row a cap es (by omega) v2 (HR.out.below C2.out)).mono ?_
      rintro e v3 ⟨ar3, capr3, rfl, hE, hc3⟩
      have HG3 : Hid (ERow v3 ag es) := HG2.out.below hc3
      have HE3 : Hid (ERow v3 ar3 es) := hE
      have C3 : Hid (Below W.heap.size W v3) := C2.out.trans (hc3.mono C2.out.size)
      clear hc3 HG2 C2 hE
      go_wp2_with fail
      refine (same_rows ag ar3 capg capr3 es (by omega) v3 HG3.out HE3.out).mono ?_
      rintro e v4 ⟨rfl, hc4⟩
      have C4 : Hid (Below W.heap.size W v4) := C3.out.trans (hc4.mono C3.out.size)
      clear hc4
      go_wp2
      go_ret
      exact ⟨rfl, C4.out⟩
    · go_wp2_with fail
      refine (AW.out.go _).mono ?_
      rintro e v1 ⟨rfl, hc1⟩
      have C1 : Hid (Below W.heap.size W v1) := B11.out.trans (hc1.mono B11.out.size)
      clear hc1
      go_wp2
      go_ret
      exact ⟨rfl, C1.out⟩
  · by_cases hs : ks = 0
    · subst hs
      have GY0 : Hid (Gives 18 f t ys es 0) := GY.out rfl
      clear GY
      go_wp2_with fail
      refine (GY0.out _ ay capy hcy HY8.out).mono ?_
      rintro e v1 ⟨ag, capg, rfl, _, hG, hc1⟩
      have HG1 : Hid (ERow v1 ag es) := hG
      have C1 : Hid (Below W.heap.size W v1) := B8.out.trans (hc1.mono B8.out.size)
      clear hG hc1 HY8 B8
      go_wp2_with fail
      refine (AW.out.go _).mono ?_
      rintro e v2 ⟨rfl, hc2⟩
      have HG2 : Hid (ERow v2 ag es) := HG1.out.below hc2
      have C2 : Hid (Below W.heap.size W v2) := C1.out.trans (hc2.mono C1.out.size)
      clear hc2 HG1 C1
      go_wp2_with fail
      refine (ref_row a cap es (by omega) v2 (HR.out.below C2.out)).mono ?_
      rintro e v3 ⟨ar3, capr3, rfl, hE, hc3⟩
      have HG3 : Hid (ERow v3 ag es) := HG2.out.below hc3
      have HE3 : Hid (ERow v3 ar3 es) := hE
      have C3 : Hid (Below W.heap.size W v3) := C2.out.trans (hc3.mono C2.out.size)
      clear hc3 HG2 C2 hE
      go_wp2_with fail
      refine (same_rows ag ar3 capg capr3 es (by omega) v3 HG3.out HE3.out).mono ?_
      rintro e v4 ⟨rfl, hc4⟩
      have C4 : Hid (Below W.heap.size W v4) := C3.out.trans (hc4.mono C3.out.size)
      clear hc4
      go_wp2
      go_ret
      exact ⟨rfl, C4.out⟩
    · go_wp2_with fail
      refine (AW.out.go _).mono ?_
      rintro e v1 ⟨rfl, hc1⟩
      have C1 : Hid (Below W.heap.size W v1) := B8.out.trans (hc1.mono B8.out.size)
      clear hc1
      go_wp2
      go_ret
      exact ⟨rfl, C1.out⟩

theorem erow_nil (w : World) : ERow w none [] := ⟨fun i hi => absurd hi (by simp)⟩
theorem erow_some {w : World} {a : Option Addr} {es : List (Nat × Nat)} (h : ERow w a es) : ∃ b off, es.length = 0 ∨ a = some ⟨b, off, none⟩ := by
  by_cases h0 : es.length = 0
  · exact ⟨0, 0, .inl h0⟩
  · obtain ⟨b, off, h1, _⟩ := h.cells 0 (by omega)
    exact ⟨b, off, .inr h1⟩
theorem gives_err {fn : Nat} {f t : Int} {es : List (Nat × Nat)} {k : Int} (h : ∀ (w : World) (a : Option Addr) (cap : Nat), ERow w a es → Calls Try.prog fn #[.int .i64 f, .int .i64 t, .slice a es.length cap] w fun e w' => e = .returned (.tuple #[.slice none 0 0, .int .i64 k]) ∧ Below w.heap.size w w') : Gives fn f t es [] k ∧ GivesR fn f t es [] k := by
  refine ⟨fun w a cap _ hr => (h w a cap hr).mono ?_, fun w a cap hr => (h w a cap hr).mono ?_⟩
  · rintro e w' ⟨rfl, hb⟩
    exact ⟨none, 0, rfl, Nat.le_refl _, erow_nil _, hb⟩
  · rintro e w' ⟨rfl, hb⟩
    exact ⟨none, 0, rfl, erow_nil _, hb⟩
theorem gives_gather (f t d q : Nat) (hd : f + d = t) (ht : t < 8) (es : List (Nat × Nat)) (hq : es.length = q * 2 ^ d) (hn : es.length ≤ 100000) (hes : ltE es) (ho : (es.all fun e => ofB (f : Int) (e.1 : Int) (e.2 : Int)) = true) : Gives 18 (f : Int) (t : Int) es (gth d t q es) 0 := by
  intro w a cap hc hr
  obtain ⟨b, off, ha⟩ := erow_some hr
  refine (gather_ok f t d q hd ht a b off cap es (gth d t q es) ha hq hn hc hes ho (gth_len d t q es) (fun i hi => gth_at d t q es i hi) w hr).mono ?_
  rintro e w' ⟨p, rfl, h1, _, h2⟩
  refine ⟨some ⟨p, 0, none⟩, q, ?_, ?_, h1, h2⟩
  · rw [gth_len]
  · rw [gth_len]; exact Nat.le_refl _
theorem gives_scatter (f t d : Nat) (hd : f + d = t) (ht : t < 8) (es : List (Nat × Nat)) (hn : es.length ≤ 700) (hes : ltE es) (ho : (es.all fun e => ofB (t : Int) (e.1 : Int) (e.2 : Int)) = true) : Gives 20 (f : Int) (t : Int) es (scat d t es) 0 := by
  intro w a cap _ hr
  refine (scatter_ok f t d (2 ^ d) hd ht rfl a cap es hn hes ho w hr).mono ?_
  rintro e w' ⟨p, rfl, h1, _, h2⟩
  refine ⟨some ⟨p, 0, none⟩, es.length * 2 ^ d, ?_, ?_, h1, h2⟩
  · rw [scat_len]
  · rw [scat_len]; exact Nat.le_refl _
theorem rgives_gather (f t d q : Nat) (hd : f + d = t) (ht : t < 8) (es : List (Nat × Nat)) (hq : es.length = q * 2 ^ d) (hn : es.length ≤ 1000) (hes : ltE es) (ho : (es.all fun e => ofB (f : Int) (e.1 : Int) (e.2 : Int)) = true) : GivesR 19 (f : Int) (t : Int) es (gth d t q es) 0 := by
  intro w a cap hr
  have h7 : 2 ^ t ≤ 2 ^ 7 := Nat.pow_le_pow_right (by decide) (by omega)
  have e7 : (2 : Nat) ^ 7 = 128 := by decide
  have hfp : 2 ^ f ≤ 2 ^ t := Nat.pow_le_pow_right (by decide) (by omega)
  have hP : 2 ^ t = 2 ^ d * 2 ^ f := by rw [← Nat.pow_add]; congr 1; omega
  have hF : 0 < 2 ^ f := Nat.two_pow_pos _
  refine (rgather_core (f : Int) (t : Int) (2 ^ t) (2 ^ f) (2 ^ d) q a cap es hn w hr (fun j n => hasB (es.getD (j * 2 ^ d + n / 2 ^ f) (0, 0)).1 (es.getD (j * 2 ^ d + n / 2 ^ f) (0, 0)).2 (n % 2 ^ f)) (by omega) (by omega) (by omega) hF (by omega) (Nat.two_pow_pos _) hP hq (rbits_any t ht) (rbits_any f (by omega)) (fun w' hb => ?_) (fun j n hj hnB => ?_)).mono ?_
  · have := rall_any (f : Int) a cap es hes w' (hr.below hb) (by omega)
    rw [ho] at this
    exact this
  · have hr : n % 2 ^ f < 2 ^ f := Nat.mod_lt _ hF
    exact has_any _ _ _ (hes.at _).1 (hes.at _).2 (by omega)
  · rintro e w' ⟨a', cap', rfl, h1, h2⟩
    rw [gl_gth f t d q hd ht es hq hes (fun e he => List.all_eq_true.1 ho e he) _ (fun j n _ _ => rfl)] at h1
    exact ⟨a', cap', by rw [gth_len], h1, h2⟩
theorem rgives_scatter (f t d : Nat) (hd : f + d = t) (ht : t < 8) (es : List (Nat × Nat)) (hn : es.length ≤ 1000) (hes : ltE es) (ho : (es.all fun e => ofB (t : Int) (e.1 : Int) (e.2 : Int)) = true) : GivesR 21 (f : Int) (t : Int) es (scat d t es) 0 := by
  intro w a cap hr
  have h7 : 2 ^ t ≤ 2 ^ 7 := Nat.pow_le_pow_right (by decide) (by omega)
  have e7 : (2 : Nat) ^ 7 = 128 := by decide
  have hP : 2 ^ t = 2 ^ d * 2 ^ f := by rw [← Nat.pow_add]; congr 1; omega
  have hF : 0 < 2 ^ f := Nat.two_pow_pos _
  have hD : 0 < 2 ^ d := Nat.two_pow_pos _
  have hgd : ∀ i k n : Nat, k < 2 ^ d → (fun c n => hasB (es.getD (c / 2 ^ d) (0, 0)).1 (es.getD (c / 2 ^ d) (0, 0)).2 (c % 2 ^ d * 2 ^ f + n)) (i * 2 ^ d + k) n = hasB (es.getD i (0, 0)).1 (es.getD i (0, 0)).2 (k * 2 ^ f + n) := fun i k n hk => by
    have e1 : (i * 2 ^ d + k) / 2 ^ d = i := by rw [Nat.add_comm, Nat.add_mul_div_right _ _ hD, Nat.div_eq_of_lt hk, Nat.zero_add]
    have e2 : (i * 2 ^ d + k) % 2 ^ d = k := by rw [Nat.add_comm, Nat.add_mul_mod_self_right, Nat.mod_eq_of_lt hk]
    show hasB (es.getD ((i * 2 ^ d + k) / 2 ^ d) (0, 0)).1 (es.getD ((i * 2 ^ d + k) / 2 ^ d) (0, 0)).2 ((i * 2 ^ d + k) % 2 ^ d * 2 ^ f + n) = _
    rw [e1, e2]
  refine (rscatter_core (f : Int) (t : Int) (2 ^ t) (2 ^ f) (2 ^ d) a cap es hn w hr (fun c n => hasB (es.getD (c / 2 ^ d) (0, 0)).1 (es.getD (c / 2 ^ d) (0, 0)).2 (c % 2 ^ d * 2 ^ f + n)) (by omega) (by omega) (by omega) hF (by omega) hD hP (rbits_any t ht) (rbits_any f (by omega)) (fun w' hb => ?_) (fun i k n hi hk hnb => ?_)).mono ?_
  · have := rall_any (t : Int) a cap es hes w' (hr.below hb) (by omega)
    rw [ho] at this
    exact this
  · have e := hgd i k n hk
    dsimp only at e
    rw [e]
    have := Nat.mul_le_mul_right (2 ^ f) (show k + 1 ≤ 2 ^ d from hk)
    rw [Nat.add_mul, Nat.one_mul, ← hP] at this
    exact has_any _ _ _ (hes.at _).1 (hes.at _).2 (by omega)
  · rintro e w' ⟨a', cap', rfl, h1, h2⟩
    rw [gl_scat f t d hd ht es hes (fun e he => List.all_eq_true.1 ho e he) _ (fun i k n _ hk _ => hgd i k n hk)] at h1
    exact ⟨a', cap', by rw [scat_len], h1, h2⟩
theorem wg_any (f t : Int) (a : Option Addr) (cap : Nat) (es : List (Nat × Nat)) (hes : ltE es) (hc : es.length ≤ cap) (W : World) (hr : ERow W a es) :
    Calls Try.prog 5 #[.int .i64 f, .int .i64 t, .slice a es.length cap] W fun e w' => e = .returned (.bool true) ∧ Below W.heap.size W w' := by
  by_cases hn : 140 < es.length
  · exact wg_long f t a es.length cap hn W
  have hn : es.length ≤ 140 := by omega
  by_cases hu : 0 ≤ f ∧ f ≤ t ∧ t ≤ 7
  · obtain ⟨h0, h1, h2⟩ := hu
    obtain ⟨f, rfl⟩ : ∃ k : Nat, f = (k : Int) := ⟨f.toNat, by omega⟩
    obtain ⟨t, rfl⟩ : ∃ k : Nat, t = (k : Int) := ⟨t.toNat, by omega⟩
    obtain ⟨d, hd⟩ : ∃ d, f + d = t := ⟨t - f, by omega⟩
    have ht : t < 8 := by omega
    have h7 : 2 ^ t ≤ 2 ^ 7 := Nat.pow_le_pow_right (by decide) (by omega)
    have d7 : 2 ^ d ≤ 2 ^ 7 := Nat.pow_le_pow_right (by decide) (by omega)
    have e7 : (2 : Nat) ^ 7 = 128 := by decide
    have hP : 2 ^ t = 2 ^ d * 2 ^ f := by rw [← Nat.pow_add]; congr 1; omega
    have hF : 0 < 2 ^ f := Nat.two_pow_pos _
    have hD : 0 < 2 ^ d := Nat.two_pow_pos _
    -- the program and the document gather alike
    have KG : ∃ (xs : List (Nat × Nat)) (kg : Int), xs.length ≤ 140 ∧ (kg = 0 ∨ kg = 5 ∨ kg = 6) ∧ Gives 18 (f : Int) (t : Int) es xs kg ∧ GivesR 19 (f : Int) (t : Int) es xs kg ∧ (kg = 0 → Gives 20 (f : Int) (t : Int) xs es 0) := by
      by_cases hm : es.length % 2 ^ d = 0
      · have hq : es.length = es.length / 2 ^ d * 2 ^ d := (Nat.div_mul_cancel (Nat.dvd_of_mod_eq_zero hm)).symm
        have hql : es.length / 2 ^ d ≤ 140 := Nat.le_trans (Nat.div_le_self _ _) hn
        cases ho : (es.all fun e => ofB (f : Int) (e.1 : Int) (e.2 : Int))
        · refine ⟨[], 5, by simp, by omega, (gives_err fun w a cap hr => gather_field f t d (2 ^ d) hd ht rfl a cap es (by omega) hm hes ho w hr).1, (gives_err fun w a cap hr => rgather_field (f : Int) (t : Int) (by omega) (by omega) (by omega) (2 ^ t) (2 ^ f) (2 ^ d) hF hD (by omega) hP a cap es.length hm w (rbits_any t ht) (rbits_any f (by omega)) (fun w' hb => ?_)).2, fun h => by omega⟩
          have := rall_any (f : Int) a cap es hes w' (hr.below hb) (by omega)
          rw [ho] at this
          exact this
        · have hoe : ∀ e ∈ es, ofB (f : Int) (e.1 : Int) (e.2 : Int) = true := fun e he => List.all_eq_true.1 ho e he
          refine ⟨gth d t (es.length / 2 ^ d) es, 0, by rw [gth_len]; exact hql, by omega, gives_gather f t d _ hd ht es hq (by omega) hes ho, rgives_gather f t d _ hd ht es hq (by omega) hes ho, fun _ => ?_⟩
          have hg := gth_mem f t d _ hd ht es hq hes hoe
          have := gives_scatter f t d hd ht (gth d t (es.length / 2 ^ d) es) (by rw [gth_len]; omega) (fun e he => (hg e he).2) (List.all_eq_true.2 fun e he => (hg e he).1)
          rw [scat_gth f t d _ hd ht es hq hes hoe] at this
          exact this
      · exact ⟨[], 6, by simp, by omega, (gives_err fun w a cap _ => gather_size f t d (2 ^ d) hd ht rfl a es.length cap hm w).1, (gives_err fun w a cap _ => rgather_size (f : Int) (t : Int) (by omega) (by omega) (by omega) (2 ^ t) (2 ^ f) (2 ^ d) hF hD (by omega) hP a cap es.length hm w (rbits_any t ht) (rbits_any f (by omega))).2, fun h => by omega⟩
    have KS : ∃ (ys : List (Nat × Nat)) (ks : Int), ys.length ≤ 100000 ∧ (ks = 0 ∨ ks = 5) ∧ Gives 20 (f : Int) (t : Int) es ys ks ∧ GivesR 21 (f : Int) (t : Int) es ys ks ∧ (ks = 0 → Gives 18 (f : Int) (t : Int) ys es 0) := by
      cases ho : (es.all fun e => ofB (t : Int) (e.1 : Int) (e.2 : Int))
      · refine ⟨[], 5, by simp, by omega, (gives_err fun w a cap hr => scatter_field (f : Int) (t : Int) (by omega) (by omega) (by omega) a cap es (by omega) hes ho w hr).1, (gives_err fun w a cap hr => rscatter_field (f : Int) (t : Int) (by omega) (by omega) (by omega) a cap es.length w ?_).2, fun h => by omega⟩
        have := rall_any (t : Int) a cap es hes w hr (by omega)
        rw [ho] at this
        exact this
      · have hoe : ∀ e ∈ es, ofB (t : Int) (e.1 : Int) (e.2 : Int) = true := fun e he => List.all_eq_true.1 ho e he
        have hl : es.length * 2 ^ d ≤ 140 * 128 := Nat.mul_le_mul hn (by omega)
        refine ⟨scat d t es, 0, by rw [scat_len]; omega, by omega, gives_scatter f t d hd ht es (by omega) hes ho, rgives_scatter f t d hd ht es (by omega) hes ho, fun _ => ?_⟩
        have hg := scat_mem f t d hd ht es hes hoe
        have := gives_gather f t d es.length hd ht (scat d t es) (scat_len d t es) (by rw [scat_len]; omega) (fun e he => (hg e he).2) (List.all_eq_true.2 fun e he => (hg e he).1)
        rw [gth_scat f t d hd ht es hes hoe] at this
        exact this
    obtain ⟨xs, kg, hx, hkg, G, RG, SX⟩ := KG
    obtain ⟨ys, ks, hy, hks, S, RS, GY⟩ := KS
    exact wg_core (f : Int) (t : Int) a cap es xs ys kg ks hn (by omega) hy hc W hr (by rw [IntKind.wrap_i64]; omega) (by rw [IntKind.wrap_i64]; omega) G RG S RS SX GY
  · exact wg_core f t a cap es [] [] 1 1 hn (by simp) (by simp) hc W hr (by rw [IntKind.wrap_i64]; omega) (by rw [IntKind.wrap_i64]; omega) (gives_err fun w a cap _ => gather_arg f t hu _ w).1 (gives_err fun w a cap _ => rgather_arg f t hu _ w).2 (gives_err fun w a cap _ => scatter_arg f t hu _ w).1 (gives_err fun w a cap _ => rscatter_arg f t hu _ w).2 (fun h => by omega) (fun h => by omega)
end Go.Proofs.Ytflkchhdgiojgaa
