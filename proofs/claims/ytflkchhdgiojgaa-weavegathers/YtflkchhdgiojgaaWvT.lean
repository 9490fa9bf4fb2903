/- The contracts of steepleref09.Gather and steepleref09.Scatter over the seat's translation; lists gathered and scattered: what the document asks, bit by bit, is what halves joined and parted are; there and back. -/
import Derived.Test.YtflkchhdgiojgaaWvS
namespace Go.Proofs.Ytflkchhdgiojgaa
open Go.RowKit

/-- What is gathered, bit by bit: the first q of them. -/
def gl (g : Nat → Nat → Bool) (B q : Nat) : List (Nat × Nat) := (List.range q).map fun j => rx (g j) B
theorem gl_len (g : Nat → Nat → Bool) (B q : Nat) : (gl g B q).length = q := by simp [gl]
theorem gl_snoc (g : Nat → Nat → Bool) (B q : Nat) : gl g B (q + 1) = gl g B q ++ [rx (g q) B] := by simp [gl, List.range_succ]
/-- What lies there while an element is summed up. -/
structure Gst (W w : World) (p : Nat) (x : Nat × Nat) : Prop where
  d : Below p W w
  s : Ew w p x.1 x.2
theorem Gst.below {W w w' : World} {p : Nat} {x : Nat × Nat} (h : Gst W w p x) (hb : Below w.heap.size w w') : Gst W w' p x := ⟨h.d.trans (hb.mono (Nat.le_of_lt h.s.toEl.lt)), h.s.below hb⟩
theorem Gst.drew {W w : World} {p : Nat} {x : Nat × Nat} (h : Gst W w p x) : Gst W w.drew p x := ⟨h.d.drew, h.s.drew⟩
theorem Gst.put {W w : World} {p : Nat} {x : Nat × Nat} (h : Gst W w p x) (u v : Nat) : Gst W ((w.setCell ⟨p, 0, none⟩ (.int .u64 (u : Int))).setCell ⟨p, 1, none⟩ (.int .u64 (v : Int))) p (u, v) := ⟨below2 (p := p) h.d (Nat.le_refl _) _ _, h.s.set _ _⟩
theorem Gst.facts {W w : World} {p : Nat} {x : Nat × Nat} (h : Gst W w p x) {b o x1 x0 : Nat} (A : b < p ∧ W.cell? ⟨b, o, none⟩ = some (.int .u64 (x1 : Int)) ∧ W.cell? ⟨b, o + 1, none⟩ = some (.int .u64 (x0 : Int))) : w.cell? ⟨b, o, none⟩ = some (.int .u64 (x1 : Int)) ∧ w.cell? ⟨b, o + 1, none⟩ = some (.int .u64 (x0 : Int)) :=
  ⟨by rw [h.d.cell (p := ⟨b, o, none⟩) A.1]; exact A.2.1, by rw [h.d.cell (p := ⟨b, o + 1, none⟩) A.1]; exact A.2.2⟩
set_option maxHeartbeats 4000000 in
set_option maxRecDepth 100000 in
theorem rgather_core (f t : Int) (B b many q : Nat) (a : Option Addr) (cap : Nat) (es : List (Nat × Nat)) (hn : es.length ≤ 1000) (W : World) (hr : ERow W a es) (g : Nat → Nat → Bool)
    (h0 : 0 ≤ f) (h1 : f ≤ t) (h2 : t ≤ 7) (hb : 0 < b) (hB : B ≤ 128) (hm : 0 < many) (hBm : B = many * b) (hq : es.length = q * many)
    (HT : Hid (Ret 37 #[.int .i64 t] (.int .i64 (B : Int)))) (HF : Hid (Ret 37 #[.int .i64 f] (.int .i64 (b : Int))))
    (HA : Hid (∀ w, Below W.heap.size W w → Calls Try.prog 33 #[.int .i64 f, .slice a es.length cap] w fun e w' => e = .returned (.bool true) ∧ Below w.heap.size w w'))
    (HH : Hid (∀ j n : Nat, j < q → n < B → Ret 38 #[.agg #[.int .u64 ((es.getD (j * many + n / b) (0, 0)).1 : Int), .int .u64 ((es.getD (j * many + n / b) (0, 0)).2 : Int)], .int .i64 ((n % b : Nat) : Int)] (.bool (g j n)))) :
    Calls Try.prog 19 #[.int .i64 f, .int .i64 t, .slice a es.length cap] W fun e w' => ∃ a' cap', e = .returned (.tuple #[.slice a' q cap', .int .i64 0]) ∧ ERow w' a' (gl g B q) ∧ Below W.heap.size W w' := by
  have HR : Hid (ERow W a es) := hr
  have HBm : Hid (B = many * b) := hBm
  have HQ : Hid (es.length = q * many) := hq
  have k1 : (B : Int).tdiv (b : Int) = (many : Int) := by rw [Int.tdiv_eq_ediv_of_nonneg (by omega), hBm]; rw [Int.natCast_mul]; exact Int.mul_ediv_cancel _ (by omega)
  have k2 : IntKind.i64.wrap (many : Int) = (many : Int) := by
    have : many ≤ B := by rw [hBm]; exact Nat.le_mul_of_pos_right _ hb
    rw [IntKind.wrap_i64]; omega
  have k3 : (es.length : Int).tmod (many : Int) = 0 := by rw [Int.tmod_eq_emod_of_nonneg (by omega), hq, Int.natCast_mul]; exact Int.mul_emod_left _ _
  have k4 : ¬ (b : Int) = 0 := by omega
  have k5 : ¬ (many : Int) = 0 := by omega
  have k6 : ¬ b = 0 := by omega
  have k7 : ¬ many = 0 := by omega
  clear hr hBm hq
  go_enter Try.func19, Try.ntmps19
  have D : Hid (Below W.heap.size W W) := Below.refl _ _
  go_wp2_with (first | (go_at_call 37; (first | refine (HT.out.go _).mono ?_ | refine (HF.out.go _).mono ?_); rintro e w1 ⟨rfl, hb1⟩; have D1 : Hid (Below W.heap.size W w1) := D.out.trans (hb1.mono D.out.size); clear D hb1; have D := D1; clear D1) | (go_at_call 33; refine (HA.out _ D.out).mono ?_; rintro e w1 ⟨rfl, hb1⟩; have D1 : Hid (Below W.heap.size W w1) := D.out.trans (hb1.mono D.out.size); clear D hb1; have D := D1; clear D1))
  go_loopw [8, 10] (fun v u wr => ∃ (j I : Nat), j ≤ q ∧ Hid (I = j * many) ∧ I ≤ es.length ∧ u = .int .i64 I ∧ wr.ownsRow W.heap.size 58 2 v j (flat (gl g B j)) ∧ Below W.heap.size W wr) (fun _ u _ => es.length - (intOf u).toNat)
  case atStart => exact ⟨0, 0, Nat.zero_le _, by show _ = _; simp, Nat.zero_le _, rfl, ⟨by simp [flat, gl], .inl ⟨rfl, rfl⟩⟩, D.out⟩
  case round =>
    obtain ⟨j, I, hj, HI, hIe, rfl, hown, hbw⟩ := hrel
    obtain ⟨V, hV⟩ : ∃ V, V = wr := ⟨wr, rfl⟩
    subst hV
    have HO : Hid (V.ownsRow W.heap.size 58 2 u8 j (flat (gl g B j))) := hown
    have HB : Hid (Below W.heap.size W V) := hbw
    clear hown hbw D
    by_cases hlt : I < es.length
    · have hjq : j < q := by
        rcases Nat.lt_or_ge j q with h | h
        · exact h
        · exfalso; have := Nat.mul_le_mul_right many h; rw [← HI.out, ← HQ.out] at this; omega
      have HHj : Hid (∀ n : Nat, n < B → Ret 38 #[.agg #[.int .u64 ((es.getD (I + n / b) (0, 0)).1 : Int), .int .u64 ((es.getD (I + n / b) (0, 0)).2 : Int)], .int .i64 ((n % b : Nat) : Int)] (.bool (g j n))) := fun n hnB => by rw [HI.out]; exact HH.out j n hjq hnB
      have HIm : Hid (I + many ≤ es.length) := by
        show _ ≤ _
        have := Nat.mul_le_mul_right many (show j + 1 ≤ q from hjq)
        rw [← HQ.out, Nat.add_mul, Nat.one_mul, ← HI.out] at this
        exact this
      clear HH HA
      go_wp2_with fail
      go_loopw [12] (fun u ws => ∃ n : Nat, n ≤ B ∧ u = .int .i64 n ∧ Gst V ws V.heap.size (rx (g j) n)) (fun u _ => B - (intOf u).toNat)
      case atStart => exact ⟨0, Nat.zero_le _, rfl, ⟨by go_grown, ⟨⟨by simp [go_sem, rx], by simp [go_sem, rx]⟩, by simp [go_sem], by simp [go_sem]⟩⟩⟩
      case round =>
        obtain ⟨n, hnB, rfl, K⟩ := hrel
        by_cases hnlt : n < B
        · obtain ⟨m, HMd⟩ : ∃ m, Hid (m = n / b) := ⟨_, rfl⟩
          obtain ⟨r, HRd⟩ : ∃ r, Hid (r = n % b) := ⟨_, rfl⟩
          have i1 : (n : Int).tdiv (b : Int) = (m : Int) := by rw [Int.tdiv_eq_ediv_of_nonneg (by omega), HMd.out]; simp
          have i2 : (n : Int).tmod (b : Int) = (r : Int) := by rw [Int.tmod_eq_emod_of_nonneg (by omega), HRd.out]; simp
          have hmm : m < many := by rw [HMd.out, Nat.div_lt_iff_lt_mul hb, ← HBm.out]; exact hnlt
          have hin : I + m < es.length := by have := HIm.out; omega
          have i3 : IntKind.i64.wrap (m : Int) = (m : Int) := by rw [IntKind.wrap_i64]; omega
          have i4 : IntKind.i64.wrap ((I : Int) + m) = (I : Int) + m := by rw [IntKind.wrap_i64]; omega
          have i5 : (0 : Int) ≤ (I : Int) + m := by omega
          have i6 : (I : Int) + m < (es.length : Int) := by omega
          have i7 : ((I : Int) + m).toNat = I + m := by omega
          have H1 := HHj.out n hnlt
          rw [← HMd.out, ← HRd.out] at H1
          obtain ⟨b0, off, rfl, hb0, c1, c0⟩ := HR.out.cells (I + m) hin
          have A : Hid (b0 < V.heap.size ∧ V.cell? ⟨b0, off + (I + m) * 2, none⟩ = some (.int .u64 ((es.getD (I + m) (0, 0)).1 : Nat)) ∧ V.cell? ⟨b0, off + (I + m) * 2 + 1, none⟩ = some (.int .u64 ((es.getD (I + m) (0, 0)).2 : Nat))) := ⟨Nat.lt_of_lt_of_le hb0 HB.out.size, keepc HB.out c1, keepc HB.out c0⟩
          clear c1 c0
          generalize es.getD (I + m) (0, 0) = y at *
          have FF := K.facts A.out
          go_wp2_with (first | (go_at_call 37; (first | refine (HT.out.go _).mono ?_ | refine (HF.out.go _).mono ?_); rintro e w1 ⟨rfl, hb1⟩; have K1 := K.below hb1; clear FF K hb1; have K := K1; clear K1; have FF := K.facts A.out))
          go_region_held3 (fun w => w.cell? ⟨b0, off + (I + m) * 2, none⟩ = some (.int .u64 (y.1 : Nat)) ∧ w.cell? ⟨b0, off + (I + m) * 2 + 1, none⟩ = some (.int .u64 (y.2 : Nat))) (go_keep) (first | (go_at_call 37; refine (HF.out.go _).mono ?_; rintro e w1 ⟨rfl, hb1⟩; have K1 := Gst.below (by first | exact K | exact K.drew) hb1; clear FF K hb1; have K := K1; clear K1; have FF := K.facts A.out) | (go_at_call 38; refine (H1.go _).mono ?_; rintro e w1 ⟨rfl, hb1⟩; have K1 := Gst.below (by first | exact K | exact K.drew) hb1; clear FF K hb1; have K := K1; clear K1; have FF := K.facts A.out))
          clear FF A H1
          have HXs : Hid (rx (g j) (n + 1) = if g j n then ((rx (g j) n).1 ^^^ (bv (n : Int)).1, (rx (g j) n).2 ^^^ (bv (n : Int)).2) else rx (g j) n) := rfl
          have H3 := radd (rx (g j) n).1 (rx (g j) n).2 (bv (n : Int)).1 (bv (n : Int)).2 (rx_lt (g j) n).1 (rx_lt (g j) n).2 (bv_lt2 _).1 (bv_lt2 _).2
          have H2 := rbit_any (n : Int)
          rcases hg : g j n with _ | _
          · have HK := K
            clear K
            go_wp2
            refine ⟨⟨n + 1, hnlt, by simp, ?_⟩, by simp [intOf]; omega⟩
            rw [HXs.out, hg]
            exact HK
          · rw [hg, if_pos rfl] at HXs
            generalize rx (g j) n = X at *
            generalize bv (n : Int) = Y at *
            go_wp2_with fail
            have hq : V.heap.size ≤ V.heap.size := Nat.le_refl _
            obtain ⟨⟨s1, s0⟩, t1, t0⟩ := K.s
            go_region_with (first | (go_at_call 40; refine (H2.go _).mono ?_; rintro e w' ⟨rfl, hb'⟩; have K'' := Gst.below (w' := w') (by first | exact K | exact K.drew) hb'; clear s1 s0 t1 t0 K hb'; have K := K''; clear K''; obtain ⟨⟨s1, s0⟩, t1, t0⟩ := K.s) | (go_at_call 39; refine (H3.go _).mono ?_; rintro e w' ⟨rfl, hb'⟩; have K'' := Gst.below (w' := w') (by first | exact K | exact K.drew) hb'; clear s1 s0 t1 t0 K hb'; have K := K''; clear K''; obtain ⟨⟨s1, s0⟩, t1, t0⟩ := K.s))
            all_goals
              go_wp2
              refine ⟨⟨n + 1, hnlt, by simp, ?_⟩, by simp [intOf]; omega⟩
              rw [HXs.out]
              exact K.put _ _
        · obtain rfl : n = B := by omega
          obtain ⟨i0, hi, hz0, hz1, hz2⟩ := info_relem
          have HIn : Hid (Try.prog.info? 58 = some i0 ∧ i0.zero = some (.agg #[.int .u64 0, .int .u64 0]) ∧ i0.size = 2 ∧ i0.bytes = 16) := ⟨hi, hz0, hz1, hz2⟩
          have HSn : Hid (gl g n (j + 1) = gl g n j ++ [rx (g j) n]) := gl_snoc g n j
          have i1 : IntKind.i64.wrap ((I : Int) + many) = ((I + many : Nat) : Int) := by have := HIm.out; rw [IntKind.wrap_i64]; omega
          have hj1 : j ≤ es.length := by have := HI.out; have := Nat.le_mul_of_pos_right j hm; omega
          clear hi hz0 hz1 hz2
          generalize rx (g j) n = X at *
          obtain ⟨⟨s1, s0⟩, _, _⟩ := K.s
          go_wp2_with (first | (go_at_call 37; refine (HT.out.go _).mono ?_; rintro e w1 ⟨rfl, hb1⟩; have K1 := K.below hb1; clear s1 s0 K hb1; have K := K1; clear K1; obtain ⟨⟨s1, s0⟩, _, _⟩ := K.s) | (at_builtin; refine wpList_append_own _ rfl _ _ 30 rfl W.heap.size 58 i0 (.agg #[.int .u64 0, .int .u64 0]) 2 16 Try.underlying30 HIn.out.1 HIn.out.2.1 HIn.out.2.2.1 HIn.out.2.2.2 rfl (by decide) _ _ _ rfl (own_below (own_below HO.out K.d) (by go_grown)) ⟨w1.heap.size, 0, none⟩ 1 1 [.int .u64 (X.1 : Int), .int .u64 (X.2 : Int)] rfl rfl (fun p u hu => by rcases p with _ | _ | p <;> simp at hu <;> subst hu <;> simp [go_sem]) (by intro u hu; simp at hu; rcases hu with rfl | rfl <;> rfl) (by simp only [maxLen]; omega) (by omega) (by have := (HB.out.trans (K.d.mono HB.out.size)).size; simp; omega) ?_; intro v' w' hown' hgr _))
          have D1 := HB.out.trans (K.d.mono HB.out.size)
          refine ⟨⟨j + 1, I + many, hjq, by show _ = _; rw [HI.out, Nat.add_mul, Nat.one_mul], HIm.out, by simp, ?_, ?_⟩, by have := HIm.out; simp [intOf]; omega⟩
          · rw [HSn.out, flat_snoc]; exact hown'
          · exact (D1.alloc D1.size _).grown hgr (by have := D1.size; simp; omega) fun k hk => (HO.out.lt k hk).1
    · obtain rfl : I = es.length := by omega
      obtain rfl : j = q := by
        have h := HI.out
        rw [HQ.out] at h
        exact (Nat.eq_of_mul_eq_mul_right hm h).symm
      have HO' : V.ownsRow W.heap.size 58 2 u8 (gl g B j).length (flat (gl g B j)) := by rw [gl_len]; exact HO.out
      obtain ⟨a', cap', rfl, hE⟩ := own_row HO'
      have HE : Hid (ERow V a' (gl g B j)) := hE
      rw [gl_len] at *
      clear hE HO HO'
      go_wp2
      refine bodyPost_ret (v := .tuple #[.slice a' j cap', .int .i64 0]) (by simp [results, Try.results19, go_sem, *]) rfl ?_
      exact ⟨a', cap', rfl, HE.out, HB.out⟩

/-- The j-th piece of 2^d elements. -/
def pc (d : Nat) (es : List (Nat × Nat)) (j : Nat) : List (Nat × Nat) := (es.drop (j * 2 ^ d)).take (2 ^ d)
/-- What is gathered. -/
def gth (d t q : Nat) (es : List (Nat × Nat)) : List (Nat × Nat) := (List.range q).map fun j => jnd d t (pc d es j)
theorem gth_len (d t q : Nat) (es : List (Nat × Nat)) : (gth d t q es).length = q := by simp [gth]
theorem gth_at (d t q : Nat) (es : List (Nat × Nat)) (j : Nat) (hj : j < q) : (gth d t q es).getD j (0, 0) = jnd d t (pc d es j) := by simp [gth, List.getD, hj]
theorem pc_len (d q : Nat) (es : List (Nat × Nat)) (hq : es.length = q * 2 ^ d) (j : Nat) (hj : j < q) : (pc d es j).length = 2 ^ d := by
  have := Nat.mul_le_mul_right (2 ^ d) (show j + 1 ≤ q from hj)
  rw [Nat.add_mul, Nat.one_mul, ← hq] at this
  unfold pc
  rw [List.length_take, List.length_drop]; omega
theorem pc_mem (d : Nat) (es : List (Nat × Nat)) (j : Nat) (e : Nat × Nat) (h : e ∈ pc d es j) : e ∈ es := List.mem_of_mem_drop (List.mem_of_mem_take h)
theorem pc_at (d : Nat) (es : List (Nat × Nat)) (j i : Nat) (hi : i < 2 ^ d) : (pc d es j).getD i (0, 0) = es.getD (j * 2 ^ d + i) (0, 0) := by
  unfold pc
  rw [getD_take _ _ _ _ hi, getD_drop]
theorem list_ext {a b : List (Nat × Nat)} (hl : a.length = b.length) (h : ∀ i, i < a.length → a.getD i (0, 0) = b.getD i (0, 0)) : a = b := by
  apply List.ext_getElem hl
  intro i h1 h2
  have := h i h1
  simpa [List.getD, h1, h2] using this
/-- What the document gathers bit by bit. -/
theorem gl_gth (f t d q : Nat) (hd : f + d = t) (ht : t < 8) (es : List (Nat × Nat)) (hq : es.length = q * 2 ^ d) (hes : ltE es) (ho : ∀ e ∈ es, ofB (f : Int) (e.1 : Int) (e.2 : Int) = true) (g : Nat → Nat → Bool)
    (hg : ∀ j n, j < q → n < 2 ^ t → g j n = hasB (es.getD (j * 2 ^ d + n / 2 ^ f) (0, 0)).1 (es.getD (j * 2 ^ d + n / 2 ^ f) (0, 0)).2 (n % 2 ^ f)) : gl g (2 ^ t) q = gth d t q es := by
  have hf : t - d = f := by omega
  have hP : 2 ^ t = 2 ^ d * 2 ^ f := by rw [← Nat.pow_add]; congr 1; omega
  unfold gl gth
  apply List.map_congr_left
  intro j hj
  have hj : j < q := List.mem_range.1 hj
  refine rx_jnd d t (pc d es j) (by omega) ht (pc_len d q es hq j hj) (fun e he => hes e (pc_mem d es j e he)) (fun e he => by rw [hf]; exact ho e (pc_mem d es j e he)) (g j) fun n hn => ?_
  rw [hf, hg j n hj hn, pc_at d es j _ (by rw [Nat.div_lt_iff_lt_mul (Nat.two_pow_pos _), ← hP]; exact hn)]
/-- What the document scatters bit by bit. -/
theorem gl_scat (f t d : Nat) (hd : f + d = t) (ht : t < 8) (es : List (Nat × Nat)) (hes : ltE es) (ho : ∀ e ∈ es, ofB (t : Int) (e.1 : Int) (e.2 : Int) = true) (g : Nat → Nat → Bool)
    (hg : ∀ i k n, i < es.length → k < 2 ^ d → n < 2 ^ f → g (i * 2 ^ d + k) n = hasB (es.getD i (0, 0)).1 (es.getD i (0, 0)).2 (k * 2 ^ f + n)) : gl g (2 ^ f) (es.length * 2 ^ d) = scat d t es := by
  have hf : t - d = f := by omega
  have hQ : 0 < 2 ^ d := Nat.two_pow_pos _
  refine list_ext (by rw [gl_len, scat_len]) fun c hc => ?_
  rw [gl_len] at hc
  have e1 : (gl g (2 ^ f) (es.length * 2 ^ d)).getD c (0, 0) = rx (g c) (2 ^ f) := by simp [gl, List.getD, hc]
  have hi : c / 2 ^ d < es.length := by rw [Nat.div_lt_iff_lt_mul hQ]; exact hc
  have hk : c % 2 ^ d < 2 ^ d := Nat.mod_lt _ hQ
  have e2 : c = c / 2 ^ d * 2 ^ d + c % 2 ^ d := by rw [Nat.mul_comm]; exact (Nat.div_add_mod _ _).symm
  have hm : es.getD (c / 2 ^ d) (0, 0) ∈ es := by rw [show es.getD (c / 2 ^ d) (0, 0) = es[c / 2 ^ d] by simp [hi]]; exact List.getElem_mem hi
  rw [e1, e2, scat_at d t es _ _ hi hk]
  have := sp_rx d t (es.getD (c / 2 ^ d) (0, 0)) (by omega) ht (hes _ hm) (ho _ hm) (c % 2 ^ d) hk (g (c / 2 ^ d * 2 ^ d + c % 2 ^ d)) (fun n hn => by rw [hf] at hn ⊢; exact hg _ _ n hi hk hn)
  rw [hf] at this
  exact this
/-- What is gathered is scattered as it was. -/
theorem scat_gth (f t d q : Nat) (hd : f + d = t) (ht : t < 8) (es : List (Nat × Nat)) (hq : es.length = q * 2 ^ d) (hes : ltE es) (ho : ∀ e ∈ es, ofB (f : Int) (e.1 : Int) (e.2 : Int) = true) : scat d t (gth d t q es) = es := by
  have hf : t - d = f := by omega
  have hQ : 0 < 2 ^ d := Nat.two_pow_pos _
  refine list_ext (by rw [scat_len, gth_len, hq]) fun c hc => ?_
  rw [scat_len, gth_len] at hc
  have hi : c / 2 ^ d < q := by rw [Nat.div_lt_iff_lt_mul hQ]; exact hc
  have hk : c % 2 ^ d < 2 ^ d := Nat.mod_lt _ hQ
  have e2 : c = c / 2 ^ d * 2 ^ d + c % 2 ^ d := by rw [Nat.mul_comm]; exact (Nat.div_add_mod _ _).symm
  rw [e2, scat_at d t _ _ _ (by rw [gth_len]; exact hi) hk, gth_at d t q es _ hi, sp_jnd d t (pc d es (c / 2 ^ d)) (by omega) ht (pc_len d q es hq _ hi) (fun e he => hes e (pc_mem d es _ e he)) (fun e he => by rw [hf]; exact ho e (pc_mem d es _ e he)), pc_at d es _ _ hk]
theorem gth_scat (f t d : Nat) (hd : f + d = t) (ht : t < 8) (es : List (Nat × Nat)) (hes : ltE es) (ho : ∀ e ∈ es, ofB (t : Int) (e.1 : Int) (e.2 : Int) = true) : gth d t es.length (scat d t es) = es := by
  refine list_ext (by rw [gth_len]) fun j hj => ?_
  rw [gth_len] at hj
  have hm : es.getD j (0, 0) ∈ es := by rw [show es.getD j (0, 0) = es[j] by simp [hj]]; exact List.getElem_mem hj
  rw [gth_at d t _ _ j hj]
  have e : pc d (scat d t es) j = sp d t (es.getD j (0, 0)) := by
    have hl := pc_len d es.length (scat d t es) (scat_len d t es) j hj
    refine list_ext (by rw [hl, sp_len]) fun i hi => ?_
    rw [hl] at hi
    rw [pc_at d _ j i hi, scat_at d t es j i hj hi]
  rw [e, jnd_sp d t _ (by omega) ht (hes _ hm) (ho _ hm)]
theorem scat_mem (f t d : Nat) (hd : f + d = t) (ht : t < 8) (es : List (Nat × Nat)) (hes : ltE es) (ho : ∀ e ∈ es, ofB (t : Int) (e.1 : Int) (e.2 : Int) = true) : ∀ e ∈ scat d t es, ofB (f : Int) (e.1 : Int) (e.2 : Int) = true ∧ e.1 < 2 ^ 64 ∧ e.2 < 2 ^ 64 := by
  intro e he
  obtain ⟨x, hx, hex⟩ := List.mem_flatMap.1 he
  have := sp_of d t x (by omega) ht (hes x hx) (ho x hx) e hex
  rwa [show t - d = f by omega] at this
theorem gth_mem (f t d q : Nat) (hd : f + d = t) (ht : t < 8) (es : List (Nat × Nat)) (hq : es.length = q * 2 ^ d) (hes : ltE es) (ho : ∀ e ∈ es, ofB (f : Int) (e.1 : Int) (e.2 : Int) = true) : ∀ e ∈ gth d t q es, ofB (t : Int) (e.1 : Int) (e.2 : Int) = true ∧ e.1 < 2 ^ 64 ∧ e.2 < 2 ^ 64 := by
  intro e he
  obtain ⟨j, hj, rfl⟩ := List.mem_map.1 he
  have hj : j < q := List.mem_range.1 hj
  have hf : t - d = f := by omega
  have h1 : ∀ e ∈ pc d es j, ofB ((t - d : Nat) : Int) (e.1 : Int) (e.2 : Int) = true := fun e he => by rw [hf]; exact ho e (pc_mem d es j e he)
  exact ⟨jnd_of d t _ (by omega) ht (pc_len d q es hq j hj) h1, jnd_lt d t _ (by omega) ht (pc_len d q es hq j hj) (fun e he => hes e (pc_mem d es j e he)) h1⟩

set_option maxHeartbeats 4000000 in
set_option maxRecDepth 100000 in
theorem rscatter_core (f t : Int) (B b many : Nat) (a : Option Addr) (cap : Nat) (es : List (Nat × Nat)) (hn : es.length ≤ 1000) (W : World) (hr : ERow W a es) (g : Nat → Nat → Bool)
    (h0 : 0 ≤ f) (h1 : f ≤ t) (h2 : t ≤ 7) (hb : 0 < b) (hB : B ≤ 128) (hm : 0 < many) (hBm : B = many * b)
    (HT : Hid (Ret 37 #[.int .i64 t] (.int .i64 (B : Int)))) (HF : Hid (Ret 37 #[.int .i64 f] (.int .i64 (b : Int))))
    (HA : Hid (∀ w, Below W.heap.size W w → Calls Try.prog 33 #[.int .i64 t, .slice a es.length cap] w fun e w' => e = .returned (.bool true) ∧ Below w.heap.size w w'))
    (HH : Hid (∀ i k n : Nat, i < es.length → k < many → n < b → Ret 38 #[.agg #[.int .u64 ((es.getD i (0, 0)).1 : Int), .int .u64 ((es.getD i (0, 0)).2 : Int)], .int .i64 ((k * b + n : Nat) : Int)] (.bool (g (i * many + k) n)))) :
    Calls Try.prog 21 #[.int .i64 f, .int .i64 t, .slice a es.length cap] W fun e w' => ∃ a' cap', e = .returned (.tuple #[.slice a' (es.length * many) cap', .int .i64 0]) ∧ ERow w' a' (gl g b (es.length * many)) ∧ Below W.heap.size W w' := by
  have HR : Hid (ERow W a es) := hr
  have HBm : Hid (B = many * b) := hBm
  have hmB : many ≤ B := by rw [hBm]; exact Nat.le_mul_of_pos_right _ hb
  have hbB : b ≤ B := by rw [hBm]; exact Nat.le_mul_of_pos_left _ hm
  clear hr hBm
  go_enter Try.func21, Try.ntmps21
  go_wp2_with (first | (go_at_call 33; refine (HA.out _ (Below.refl _ _)).mono ?_; rintro e w1 ⟨rfl, hb1⟩))
  have D : Hid (Below W.heap.size W w1) := hb1
  clear hb1 HA
  go_loopw [8, 9] (fun v u wr => ∃ (i c : Nat), i ≤ es.length ∧ Hid (c = i * many) ∧ u = .int .i64 i ∧ wr.ownsRow W.heap.size 58 2 v c (flat (gl g b c)) ∧ Below W.heap.size W wr) (fun _ u _ => es.length - (intOf u).toNat)
  case atStart => exact ⟨0, 0, Nat.zero_le _, by show _ = _; simp, rfl, ⟨by simp [flat, gl], .inl ⟨rfl, rfl⟩⟩, D.out⟩
  case round =>
    obtain ⟨i, c, hi, HC, rfl, hown, hbw⟩ := hrel
    obtain ⟨V, hV⟩ : ∃ V, V = wr := ⟨wr, rfl⟩
    subst hV
    have HO : Hid (V.ownsRow W.heap.size 58 2 u8 c (flat (gl g b c))) := hown
    have HB : Hid (Below W.heap.size W V) := hbw
    clear hown hbw D
    by_cases hlt : i < es.length
    · have HHi : Hid (∀ k n : Nat, k < many → n < b → Ret 38 #[.agg #[.int .u64 ((es.getD i (0, 0)).1 : Int), .int .u64 ((es.getD i (0, 0)).2 : Int)], .int .i64 ((k * b + n : Nat) : Int)] (.bool (g (c + k) n))) := fun k n hk hn => by rw [HC.out]; exact HH.out i k n hlt hk hn
      have hcl : c ≤ 128000 := by rw [HC.out]; exact Nat.mul_le_mul (show i ≤ 1000 by omega) (show many ≤ 128 by omega)
      obtain ⟨b0, off, rfl, hb0, c1, c0⟩ := HR.out.cells i hlt
      have AW : Hid (b0 < W.heap.size ∧ W.cell? ⟨b0, off + i * 2, none⟩ = some (.int .u64 ((es.getD i (0, 0)).1 : Nat)) ∧ W.cell? ⟨b0, off + i * 2 + 1, none⟩ = some (.int .u64 ((es.getD i (0, 0)).2 : Nat))) := ⟨hb0, c1, c0⟩
      clear c1 c0 HH HR hb0
      generalize es.getD i (0, 0) = y at *
      go_wp2_with fail
      go_loopw [8, 10] (fun v u wr => ∃ (k K c' : Nat), k ≤ many ∧ Hid (K = k * b) ∧ K ≤ B ∧ Hid (c' = c + k) ∧ u = .int .i64 K ∧ wr.ownsRow W.heap.size 58 2 v c' (flat (gl g b c')) ∧ Below W.heap.size W wr) (fun _ u _ => B - (intOf u).toNat)
      case atStart => exact ⟨0, 0, c, Nat.zero_le _, by show _ = _; simp, Nat.zero_le _, by show _ = _; simp, rfl, HO.out, HB.out⟩
      case round =>
        obtain ⟨k, K, c', hk, HKk, hKB, HC', rfl, hown, hbw⟩ := hrel
        obtain ⟨U, hU⟩ : ∃ U, U = wr := ⟨wr, rfl⟩
        subst hU
        clear HO HB
        have HOu : Hid (U.ownsRow W.heap.size 58 2 u8 c' (flat (gl g b c'))) := hown
        have HBu : Hid (Below W.heap.size W U) := hbw
        clear hown hbw
        by_cases hKlt : K < B
        · have hkm : k < many := by
            rcases Nat.lt_or_ge k many with h | h
            · exact h
            · exfalso; have := Nat.mul_le_mul_right b h; rw [← HKk.out, ← HBm.out] at this; omega
          have HKb : Hid (K + b ≤ B) := by
            show _ ≤ _
            have := Nat.mul_le_mul_right b (show k + 1 ≤ many from hkm)
            rw [← HBm.out, Nat.add_mul, Nat.one_mul, ← HKk.out] at this
            exact this
          have HHk : Hid (∀ n : Nat, n < b → Ret 38 #[.agg #[.int .u64 (y.1 : Int), .int .u64 (y.2 : Int)], .int .i64 ((K + n : Nat) : Int)] (.bool (g c' n))) := fun n hn => by rw [HKk.out, HC'.out]; exact HHi.out k n hkm hn
          have hc'l : c' ≤ 129000 := by rw [HC'.out]; omega
          clear HHi
          go_wp2_with (first | (go_at_call 37; refine (HT.out.go _).mono ?_; rintro e w2 ⟨rfl, hb2⟩; have HO2 : Hid (w2.ownsRow W.heap.size 58 2 u8 c' (flat (gl g b c'))) := own_below HOu.out hb2; have HB2 : Hid (Below W.heap.size W w2) := HBu.out.trans (hb2.mono HBu.out.size); clear hb2 HOu HBu))
          have A : Hid (b0 < w2.heap.size ∧ w2.cell? ⟨b0, off + i * 2, none⟩ = some (.int .u64 (y.1 : Nat)) ∧ w2.cell? ⟨b0, off + i * 2 + 1, none⟩ = some (.int .u64 (y.2 : Nat))) := ⟨Nat.lt_of_lt_of_le AW.out.1 HB2.out.size, keepc HB2.out AW.out.2.1, keepc HB2.out AW.out.2.2⟩
          go_loopw [12] (fun u ws => ∃ n : Nat, n ≤ b ∧ u = .int .i64 n ∧ Gst w2 ws w2.heap.size (rx (g c') n)) (fun u _ => b - (intOf u).toNat)
          case atStart => exact ⟨0, Nat.zero_le _, rfl, ⟨by go_grown, ⟨⟨by simp [go_sem, rx], by simp [go_sem, rx]⟩, by simp [go_sem], by simp [go_sem]⟩⟩⟩
          case round =>
            obtain ⟨n, hnb, rfl, K0⟩ := hrel
            by_cases hnlt : n < b
            · have H1 := HHk.out n hnlt
              have i4 : IntKind.i64.wrap ((K : Int) + n) = ((K + n : Nat) : Int) := by have := HKb.out; rw [IntKind.wrap_i64]; omega
              have HXs : Hid (rx (g c') (n + 1) = if g c' n then ((rx (g c') n).1 ^^^ (bv (n : Int)).1, (rx (g c') n).2 ^^^ (bv (n : Int)).2) else rx (g c') n) := rfl
              have H3 := radd (rx (g c') n).1 (rx (g c') n).2 (bv (n : Int)).1 (bv (n : Int)).2 (rx_lt (g c') n).1 (rx_lt (g c') n).2 (bv_lt2 _).1 (bv_lt2 _).2
              have H2 := rbit_any (n : Int)
              have FF := K0.facts A.out
              rcases hg : g c' n with _ | _
              · rw [hg] at H1
                go_wp2_with (first | (go_at_call 37; refine (HF.out.go _).mono ?_; rintro e w1 ⟨rfl, hb1⟩; have K1 := K0.below hb1; clear FF K0 hb1; have K0 := K1; clear K1; have FF := K0.facts A.out) | (go_at_call 38; refine (H1.go _).mono ?_; rintro e w1 ⟨rfl, hb1⟩; have K1 := Gst.below (by first | exact K0 | exact K0.drew) hb1; clear FF K0 hb1; have K0 := K1; clear K1; have FF := K0.facts A.out))
                refine ⟨⟨n + 1, hnlt, by simp, ?_⟩, by simp [intOf]; omega⟩
                rw [HXs.out, hg]
                exact K0
              · rw [hg, if_pos rfl] at HXs
                rw [hg] at H1
                generalize rx (g c') n = X at *
                generalize bv (n : Int) = Y at *
                go_wp2_with (first | (go_at_call 37; refine (HF.out.go _).mono ?_; rintro e w1 ⟨rfl, hb1⟩; have K1 := K0.below hb1; clear FF K0 hb1; have K0 := K1; clear K1; have FF := K0.facts A.out) | (go_at_call 38; refine (H1.go _).mono ?_; rintro e w1 ⟨rfl, hb1⟩; have K1 := Gst.below (by first | exact K0 | exact K0.drew) hb1; clear FF K0 hb1; have K0 := K1; clear K1; have FF := K0.facts A.out))
                have hq : w2.heap.size ≤ w2.heap.size := Nat.le_refl _
                obtain ⟨⟨s1, s0⟩, t1, t0⟩ := K0.s
                clear FF
                go_region_with (first | (go_at_call 40; refine (H2.go _).mono ?_; rintro e w' ⟨rfl, hb'⟩; have K'' := Gst.below (w' := w') (by first | exact K0 | exact K0.drew) hb'; clear s1 s0 t1 t0 K0 hb'; have K0 := K''; clear K''; obtain ⟨⟨s1, s0⟩, t1, t0⟩ := K0.s) | (go_at_call 39; refine (H3.go _).mono ?_; rintro e w' ⟨rfl, hb'⟩; have K'' := Gst.below (w' := w') (by first | exact K0 | exact K0.drew) hb'; clear s1 s0 t1 t0 K0 hb'; have K0 := K''; clear K''; obtain ⟨⟨s1, s0⟩, t1, t0⟩ := K0.s))
                all_goals
                  go_wp2
                  refine ⟨⟨n + 1, hnlt, by simp, ?_⟩, by simp [intOf]; omega⟩
                  rw [HXs.out]
                  exact K0.put _ _
            · obtain rfl : n = b := by omega
              obtain ⟨i0, hi0, hz0, hz1, hz2⟩ := info_relem
              have HIn : Hid (Try.prog.info? 58 = some i0 ∧ i0.zero = some (.agg #[.int .u64 0, .int .u64 0]) ∧ i0.size = 2 ∧ i0.bytes = 16) := ⟨hi0, hz0, hz1, hz2⟩
              have HSn : Hid (gl g n (c' + 1) = gl g n c' ++ [rx (g c') n]) := gl_snoc g n c'
              have i1 : IntKind.i64.wrap ((K : Int) + n) = ((K + n : Nat) : Int) := by have := HKb.out; rw [IntKind.wrap_i64]; omega
              clear hi0 hz0 hz1 hz2
              generalize rx (g c') n = X at *
              obtain ⟨⟨s1, s0⟩, _, _⟩ := K0.s
              go_wp2_with (first | (go_at_call 37; refine (HF.out.go _).mono ?_; rintro e w1 ⟨rfl, hb1⟩; have K1 := K0.below hb1; clear s1 s0 K0 hb1; have K0 := K1; clear K1; obtain ⟨⟨s1, s0⟩, _, _⟩ := K0.s) | (at_builtin; refine wpList_append_own _ rfl _ _ 30 rfl W.heap.size 58 i0 (.agg #[.int .u64 0, .int .u64 0]) 2 16 Try.underlying30 HIn.out.1 HIn.out.2.1 HIn.out.2.2.1 HIn.out.2.2.2 rfl (by decide) _ _ _ rfl (own_below (own_below HO2.out K0.d) (by go_grown)) ⟨w1.heap.size, 0, none⟩ 1 1 [.int .u64 (X.1 : Int), .int .u64 (X.2 : Int)] rfl rfl (fun p u hu => by rcases p with _ | _ | p <;> simp at hu <;> subst hu <;> simp [go_sem]) (by intro u hu; simp at hu; rcases hu with rfl | rfl <;> rfl) (by simp only [maxLen]; omega) (by omega) (by have := (HB2.out.trans (K0.d.mono HB2.out.size)).size; simp; omega) ?_; intro v' w' hown' hgr _))
              have D1 := HB2.out.trans (K0.d.mono HB2.out.size)
              have HOn : Hid (w'.ownsRow W.heap.size 58 2 v' (c' + 1) (flat (gl g n (c' + 1)))) := by show World.ownsRow _ _ _ _ _ _ _; rw [HSn.out, flat_snoc]; exact hown'
              have HBn : Hid (Below W.heap.size W w') := (D1.alloc D1.size _).grown hgr (by have := D1.size; simp; omega) fun k hk => (HO2.out.lt k hk).1
              clear hown' hgr D1 s1 s0 K0 HO2 HB2 A
              refine (HF.out.go _).mono ?_
              rintro e w5 ⟨rfl, hb5⟩
              have HO5 := own_below HOn.out hb5
              have HB5 : Hid (Below W.heap.size W w5) := HBn.out.trans (hb5.mono HBn.out.size)
              clear hb5
              go_wp2
              exact ⟨⟨k + 1, K + n, c' + 1, hkm, (by show _ = _; rw [HKk.out, Nat.add_mul, Nat.one_mul]), HKb.out, (by show _ = _; rw [HC'.out, Nat.add_assoc]), by simp, HO5, HB5.out⟩, by have := HKb.out; simp [intOf]; omega⟩
        · obtain rfl : K = B := by omega
          have hkm : k = many := by
            have h := HKk.out
            rw [HBm.out] at h
            exact (Nat.eq_of_mul_eq_mul_right hb h).symm
          go_wp2_with (first | (go_at_call 37; refine (HT.out.go _).mono ?_; rintro e w2 ⟨rfl, hb2⟩; have HO2 : Hid (w2.ownsRow W.heap.size 58 2 u8 c' (flat (gl g b c'))) := own_below HOu.out hb2; have HB2 : Hid (Below W.heap.size W w2) := HBu.out.trans (hb2.mono HBu.out.size); clear hb2 HOu HBu))
          exact ⟨⟨i + 1, c', hlt, (by show _ = _; rw [HC'.out, HC.out, hkm, Nat.add_mul, Nat.one_mul]), by simp, HO2.out, HB2.out⟩, by simp [intOf]; omega⟩
    · obtain rfl : i = es.length := by omega
      have HO' : V.ownsRow W.heap.size 58 2 u8 (gl g b c).length (flat (gl g b c)) := by rw [gl_len]; exact HO.out
      obtain ⟨a', cap', rfl, hE⟩ := own_row HO'
      have HE : Hid (ERow V a' (gl g b c)) := hE
      rw [gl_len] at *
      clear hE HO HO'
      go_wp2
      refine bodyPost_ret (v := .tuple #[.slice a' c cap', .int .i64 0]) (by simp [results, Try.results21, go_sem, *]) rfl ?_
      rw [← HC.out]
      exact ⟨a', cap', rfl, HE.out, HB.out⟩
end Go.Proofs.Ytflkchhdgiojgaa
