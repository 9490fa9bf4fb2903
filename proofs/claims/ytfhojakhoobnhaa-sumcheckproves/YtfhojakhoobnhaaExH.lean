/- The contract of steepleref16.Check over the seat's translation. -/
import Derived.Test.YtfhojakhoobnhaaPExG
namespace Go.Proofs.Ytfhojakhoobnhaa
open Go.RowKit

theorem er_form {lv vr : Int} {l : List Stp} {i : Nat} {o : Stp} (he : l.getD i zst = o) (h : frm o (i : Int) = false) : er lv vr l i = 3 := by
  have : hnI lv vr (i : Int) (l.getD i zst) = 3 := by rw [he]; unfold hnI; rw [h]; rfl
  unfold er
  rw [this, if_neg (by decide)]
theorem er_field {lv vr : Int} {l : List Stp} {i : Nat} {o : Stp} (he : l.getD i zst = o) (h : frm o (i : Int) = true) (hq : ofB lv (o.v.1 : Int) (o.v.2 : Int) = false) : er lv vr l i = 5 := by
  have : hnI lv vr (i : Int) (l.getD i zst) = 5 := by rw [he]; unfold hnI; rw [h, hq]; rfl
  unfold er
  rw [this, if_neg (by decide)]
theorem er_none {lv vr : Int} {l : List Stp} {i : Nat} {o : Stp} (he : l.getD i zst = o) (h : frm o (i : Int) = true) (hq : ofB lv (o.v.1 : Int) (o.v.2 : Int) = true) (hk : o.k = 2 ∧ ¬ (0 ≤ o.a ∧ o.a < vr)) : er lv vr l i = 4 := by
  have : hnI lv vr (i : Int) (l.getD i zst) = 4 := by rw [he]; unfold hnI; rw [h, hq, if_pos rfl, if_pos rfl, if_pos hk]
  unfold er
  rw [this, if_neg (by decide)]
theorem er_deg {lv vr : Int} {l : List Stp} {i : Nat} {o : Stp} (he : l.getD i zst = o) (h : frm o (i : Int) = true) (hq : ofB lv (o.v.1 : Int) (o.v.2 : Int) = true) (hk : ¬ (o.k = 2 ∧ ¬ (0 ≤ o.a ∧ o.a < vr))) : er lv vr l i = if 8 < dg o (dfun (l.take i)) then 7 else 0 := by
  have : hnI lv vr (i : Int) (l.getD i zst) = 0 := by rw [he]; unfold hnI; rw [h, hq, if_pos rfl, if_pos rfl, if_neg hk]
  unfold er
  rw [this, if_pos rfl, he]
theorem of_none {lv : Int} (h : 0 ≤ lv ∧ lv ≤ 7) : ofB lv ((0 : Nat) : Int) ((0 : Nat) : Int) = true := by
  obtain ⟨k, rfl⟩ : ∃ k : Nat, lv = (k : Int) := ⟨lv.toNat, by omega⟩
  exact of_zero k (by omega)
set_option maxHeartbeats 20000000 in
set_option maxRecDepth 100000 in
theorem rchk (lv vr : Int) (sa : Option Addr) (cap : Nat) (l : List Stp) (hl : ∀ o ∈ l, o.ok) (hm : l.length ≤ 1000) (W : World) (hR : ORow W sa l) :
    Calls Try.prog 47 #[.int .i64 lv, .int .i64 vr, .slice sa l.length cap] W fun e w' => e = .returned (.int .i64 (chk lv vr l)) ∧ Below W.heap.size W w' := by
  by_cases h1 : 0 ≤ lv ∧ lv ≤ 7
  · have g1 : ¬ lv < 0 := by omega
    have g1' : ¬ 7 < lv := by omega
    by_cases h2 : 0 ≤ vr
    · have g2 : ¬ vr < 0 := by omega
      by_cases h3 : l.length = 0
      · have g3 : ((l.length : Int) == 0) = true := by rw [beq_iff_eq]; omega
        rw [show chk lv vr l = 3 by unfold chk; rw [if_pos ⟨h1, h2⟩, if_pos h3]]
        clear hl hR
        go_enter Try.func47, Try.ntmps47
        go_wp2
        go_ret
        exact ⟨rfl, by go_grown⟩
      · have g3 : ((l.length : Int) == 0) = false := by rw [beq_eq_false_iff_ne]; omega
        by_cases h4 : 200 < l.length
        · have g4 : (200 : Int) < (l.length : Int) := by omega
          rw [show chk lv vr l = 2 by unfold chk; rw [if_pos ⟨h1, h2⟩, if_neg h3, if_pos h4]]
          clear hl hR
          go_enter Try.func47, Try.ntmps47
          go_wp2
          go_ret
          exact ⟨rfl, by go_grown⟩
        · have g4 : ¬ (200 : Int) < (l.length : Int) := by omega
          have hc : chk lv vr l = chkF lv vr l l.length := by unfold chk; rw [if_pos ⟨h1, h2⟩, if_neg h3, if_neg h4]
          obtain ⟨cc, hcc⟩ : ∃ c : Int, c = chkF lv vr l l.length := ⟨_, rfl⟩
          rw [hc, ← hcc]
          have HZ : Hid (cc = chkF lv vr l l.length) := hcc
          have HR : Hid (ORow W sa l ∧ (∀ o ∈ l, o.ok) ∧ (0 ≤ lv ∧ lv ≤ 7)) := ⟨hR, hl, h1⟩
          have Z0 : Hid (El (W.alloc (Obj.cells #[.int .u64 0, .int .u64 0] 34)) W.heap.size 0 0 ∧ Below W.heap.size W (W.alloc (Obj.cells #[.int .u64 0, .int .u64 0] 34))) := ⟨⟨by simp [go_sem], by simp [go_sem]⟩, by go_grown⟩
          clear hl hR h1 h2 h3 h4 hc hcc
          go_enter Try.func47, Try.ntmps47
          go_wp2_with fail
          go_loopw [8] (fun u wr => ∃ i : Nat, i ≤ l.length ∧ u = .int .i64 i ∧ Hid (chkF lv vr l i = 0) ∧ El wr W.heap.size 0 0 ∧ Below W.heap.size W wr) (fun u _ => l.length - (intOf u).toNat)
          case atStart => exact ⟨0, Nat.zero_le _, rfl, rfl, Z0.out.1, Z0.out.2⟩
          case round =>
            obtain ⟨i, hil, rfl, HF, hZ, hD⟩ := hrel
            clear Z0
            by_cases hlt : i < l.length
            · obtain ⟨b0, off, rfl, hb0, c0, c1, c2, c3, c4⟩ := HR.out.1.cells i hlt
              have hok : (l.getD i zst).ok := HR.out.2.1 _ (by rw [show l.getD i zst = l[i] by simp [hlt]]; exact List.getElem_mem hlt)
              have C0 := keepc hD c0
              have C1 := keepc hD c1
              have C2 := keepc hD c2
              have C3 := keepc hD c3
              have C4 := keepc hD c4
              have z1 : wr.cell? ⟨W.heap.size, 0, none⟩ = some (.int .u64 0) := hZ.hi
              have z0 : wr.cell? ⟨W.heap.size, 1, none⟩ = some (.int .u64 0) := hZ.lo
              have HDZ : Hid (El wr W.heap.size 0 0 ∧ Below W.heap.size W wr) := ⟨hZ, hD⟩
              have zne : ∀ o, (wr.alloc o).cell? ⟨W.heap.size, 0, none⟩ = some (.int .u64 0) := fun o => (hZ.alloc o).hi
              have zne' : ∀ o, (wr.alloc o).cell? ⟨W.heap.size, 1, none⟩ = some (.int .u64 0) := fun o => (hZ.alloc o).lo
              clear hZ
              have HC : Hid (∀ c : Int, er lv vr l i = c → ¬ c = 0 → cc = c) := fun c h hc => by rw [HZ.out, chkF_at HF.out (by rw [h]; exact hc) hlt, h]
              have HC0 : Hid (er lv vr l i = 0 → chkF lv vr l (i + 1) = 0) := fun h => by rw [chkF, if_pos HF.out, h]
              have RD : Hid (frm (l.getD i zst) (i : Int) = true → ∀ w, Below W.heap.size W w → Calls Try.prog 50 #[.slice (some ⟨b0, off, none⟩) l.length cap, .int .i64 (i : Int)] w fun e w' => e = .returned (.int .i64 (dg (l.getD i zst) (dfun (l.take i)) : Nat)) ∧ Below w.heap.size w w') := fun hf w hb => rdeg_at lv vr _ cap l i hlt hm HF.out hf w (HR.out.1.below hb)
              obtain ⟨k, a, b, v, he⟩ : ∃ k a b v, l.getD i zst = ⟨k, a, b, v⟩ := ⟨_, _, _, _, rfl⟩
              have HE : Hid (l.getD i zst = ⟨k, a, b, v⟩) := he
              rw [he] at C0 C1 C2 C3 C4 RD hok
              dsimp only at C0 C1 C2 C3 C4
              have b1 : (i : Int) < (l.length : Int) := by omega
              have b2 : (0 : Int) ≤ (i : Int) := by omega
              have hlev := HR.out.2.2
              clear c0 c1 c2 c3 c4 hD hb0 he HR HZ
              by_cases k1 : k < 1
              · have HV : Hid (cc = 3) := HC.out 3 (er_form HE.out (by unfold frm; dsimp only; rw [if_neg (by omega), if_neg (by omega), if_neg (by omega)])) (by decide)
                clear HC HC0 RD hok hlev
                go_wp2
                go_ret
                exact ⟨by rw [HV.out]; rfl, HDZ.out.2.alloc HDZ.out.2.size _⟩
              by_cases k4 : 4 < k
              · have HV : Hid (cc = 3) := HC.out 3 (er_form HE.out (by unfold frm; dsimp only; rw [if_neg (by omega), if_neg (by omega), if_neg (by omega)])) (by decide)
                clear HC HC0 RD hok hlev
                go_wp2
                go_ret
                exact ⟨by rw [HV.out]; rfl, HDZ.out.2.alloc HDZ.out.2.size _⟩
              obtain rfl | rfl | rfl | rfl : k = 1 ∨ k = 2 ∨ k = 3 ∨ k = 4 := by omega
              · by_cases ha : a = 0
                · subst ha
                  by_cases hb : b = 0
                  · subst hb
                    have hf : frm ⟨1, 0, 0, v⟩ (i : Int) = true := rfl
                    have HO : Hid (Ret 19 #[.int .i64 lv, .agg #[.int .u64 (v.1 : Int), .int .u64 (v.2 : Int)]] (.bool (ofB lv (v.1 : Int) (v.2 : Int)))) := rof_any lv v.1 v.2 hok.1 hok.2
                    cases hq : ofB lv (v.1 : Int) (v.2 : Int)
                    · rw [hq] at HO
                      have HV : Hid (cc = 5) := HC.out 5 (er_field HE.out hf hq) (by decide)
                      clear HC HC0 RD hok hlev hf hq
                      go_wp2_with (go_at_call 19; refine (HO.out.go _).mono ?_; rintro e wO ⟨rfl, hbO⟩; have DO : Hid (Below W.heap.size W wO) := (HDZ.out.2.alloc HDZ.out.2.size _).trans (hbO.mono (HDZ.out.2.alloc HDZ.out.2.size _).size); clear hbO)
                      go_ret
                      exact ⟨by rw [HV.out]; rfl, DO.out⟩
                    · rw [hq] at HO
                      have HV : Hid (chkF lv vr l (i + 1) = 0) := HC0.out (by rw [er_deg HE.out hf hq (by dsimp only; omega)]; rfl)
                      have RDv := Hid.mkX (RD.out hf)
                      rw [show dg ⟨1, 0, 0, v⟩ (dfun (l.take i)) = 0 from rfl] at RDv
                      clear HC HC0 RD hok hlev hf hq
                      go_wp2_with (first | (go_at_call 19; refine (HO.out.go _).mono ?_; rintro e wO ⟨rfl, hbO⟩; have DO : Hid (El wO W.heap.size 0 0 ∧ Below W.heap.size W wO) := ⟨(HDZ.out.1.alloc _).below hbO, (HDZ.out.2.alloc HDZ.out.2.size _).trans (hbO.mono (HDZ.out.2.alloc HDZ.out.2.size _).size)⟩; have cb0 := keepc hbO (show (wr.alloc (Obj.cells #[.int .i64 1, .int .i64 0, .int .i64 0, .int .u64 (v.1 : Int), .int .u64 (v.2 : Int)] 86)).cell? ⟨wr.heap.size, 0, none⟩ = some (.int .i64 1) by simp [go_sem]); clear hbO) | (go_at_call 50; refine (RDv.out _ DO.out.2).mono ?_; rintro e wD ⟨rfl, hbD⟩))
                      exact ⟨⟨i + 1, hlt, by simp, HV.out, DO.out.1.below hbD, DO.out.2.trans (hbD.mono DO.out.2.size)⟩, by simp [intOf]; omega⟩
                  · have gb : (b != 0) = true := by simp [hb]
                    have HV : Hid (cc = 3) := HC.out 3 (er_form HE.out (by unfold frm; dsimp only; rw [if_pos rfl]; exact decide_eq_false (fun h => hb h.2))) (by decide)
                    clear HC HC0 RD hok hlev
                    go_wp2
                    go_ret
                    exact ⟨by rw [HV.out]; rfl, HDZ.out.2.alloc HDZ.out.2.size _⟩
                · have ga : (a != 0) = true := by simp [ha]
                  have HV : Hid (cc = 3) := HC.out 3 (er_form HE.out (by unfold frm; dsimp only; rw [if_pos rfl]; exact decide_eq_false (fun h => ha h.1))) (by decide)
                  clear HC HC0 RD hok hlev
                  go_wp2
                  go_ret
                  exact ⟨by rw [HV.out]; rfl, HDZ.out.2.alloc HDZ.out.2.size _⟩
              · by_cases hb : b = 0
                · subst hb
                  have H3 : Hid (¬ v = (0, 0) → cc = 3) := fun hv => HC.out 3 (er_form HE.out (by unfold frm; dsimp only; rw [if_neg (by decide), if_pos rfl]; exact decide_eq_false (fun h => hv h.2))) (by decide)
                  have HFv : Hid (v = (0, 0) → frm ⟨2, a, 0, v⟩ (i : Int) = true ∧ ofB lv (v.1 : Int) (v.2 : Int) = true) := fun hv => ⟨by unfold frm; dsimp only; rw [if_neg (by decide), if_pos rfl]; exact decide_eq_true ⟨rfl, hv⟩, by rw [hv]; exact of_none hlev⟩
                  by_cases a0 : a < 0
                  · have H4 : Hid (v = (0, 0) → cc = 4) := fun hv => HC.out 4 (er_none HE.out (HFv.out hv).1 (HFv.out hv).2 ⟨rfl, by dsimp only; omega⟩) (by decide)
                    clear HC HC0 RD hok hlev HFv
                    go_wp2_with fail
                    (try go_wp2_with fail)
                    all_goals
                      first
                        | (have hv : ¬ v = (0, 0) := by first | exact (fun h => ‹¬ v.2 = 0› (by rw [h])) | exact (fun h => ‹¬ v.1 = 0› (by rw [h]))
                           go_ret
                           exact ⟨by rw [H3.out hv]; rfl, HDZ.out.2.alloc HDZ.out.2.size _⟩)
                        | (have hv : v = (0, 0) := Prod.ext (by assumption) (by assumption)
                           go_ret
                           exact ⟨by rw [H4.out hv]; rfl, HDZ.out.2.alloc HDZ.out.2.size _⟩)
                  · by_cases av : a < vr
                    · have av' : ¬ vr ≤ a := by omega
                      have HV : Hid (v = (0, 0) → chkF lv vr l (i + 1) = 0) := fun hv => HC0.out (by rw [er_deg HE.out (HFv.out hv).1 (HFv.out hv).2 (by dsimp only; omega)]; rfl)
                      have RDv : Hid (v = (0, 0) → ∀ w, Below W.heap.size W w → Calls Try.prog 50 #[.slice (some ⟨b0, off, none⟩) l.length cap, .int .i64 (i : Int)] w fun e w' => e = .returned (.int .i64 ((1 : Nat) : Int)) ∧ Below w.heap.size w w') := fun hv => RD.out (HFv.out hv).1
                      clear HC HC0 RD hok hlev HFv
                      go_wp2_with (go_at_call 50; refine (RDv.out (Prod.ext (by assumption) (by assumption)) _ (by first | exact HDZ.out.2.alloc HDZ.out.2.size _)).mono ?_; rintro e wD ⟨rfl, hbD⟩)
                      all_goals
                        first
                          | (have hv : ¬ v = (0, 0) := by first | exact (fun h => ‹¬ v.2 = 0› (by rw [h])) | exact (fun h => ‹¬ v.1 = 0› (by rw [h]))
                             go_ret
                             exact ⟨by rw [H3.out hv]; rfl, HDZ.out.2.alloc HDZ.out.2.size _⟩)
                          | (have hv : v = (0, 0) := Prod.ext (by assumption) (by assumption)
                             exact ⟨⟨i + 1, hlt, by simp, HV.out hv, (HDZ.out.1.alloc _).below hbD, (HDZ.out.2.alloc HDZ.out.2.size _).trans (hbD.mono (HDZ.out.2.alloc HDZ.out.2.size _).size)⟩, by simp [intOf]; omega⟩)
                    · have av' : vr ≤ a := by omega
                      have H4 : Hid (v = (0, 0) → cc = 4) := fun hv => HC.out 4 (er_none HE.out (HFv.out hv).1 (HFv.out hv).2 ⟨rfl, by dsimp only; omega⟩) (by decide)
                      clear HC HC0 RD hok hlev HFv
                      go_wp2_with fail
                      (try go_wp2_with fail)
                      all_goals
                        first
                          | (have hv : ¬ v = (0, 0) := by first | exact (fun h => ‹¬ v.2 = 0› (by rw [h])) | exact (fun h => ‹¬ v.1 = 0› (by rw [h]))
                             go_ret
                             exact ⟨by rw [H3.out hv]; rfl, HDZ.out.2.alloc HDZ.out.2.size _⟩)
                          | (have hv : v = (0, 0) := Prod.ext (by assumption) (by assumption)
                             go_ret
                             exact ⟨by rw [H4.out hv]; rfl, HDZ.out.2.alloc HDZ.out.2.size _⟩)
                · have gb : (b != 0) = true := by simp [hb]
                  have HV : Hid (cc = 3) := HC.out 3 (er_form HE.out (by unfold frm; dsimp only; rw [if_neg (by decide), if_pos rfl]; exact decide_eq_false (fun h => hb h.1))) (by decide)
                  clear HC HC0 RD hok hlev
                  go_wp2
                  go_ret
                  exact ⟨by rw [HV.out]; rfl, HDZ.out.2.alloc HDZ.out.2.size _⟩
              · by_cases a0 : a < 0
                · have HV : Hid (cc = 3) := HC.out 3 (er_form HE.out (by unfold frm; dsimp only; rw [if_neg (by decide), if_neg (by decide), if_pos (.inl rfl)]; exact decide_eq_false (fun h => by omega))) (by decide)
                  clear HC HC0 RD hok hlev
                  go_wp2
                  all_goals
                    go_ret
                    exact ⟨by rw [HV.out]; rfl, HDZ.out.2.alloc HDZ.out.2.size _⟩
                by_cases ai : (i : Int) ≤ a
                · have HV : Hid (cc = 3) := HC.out 3 (er_form HE.out (by unfold frm; dsimp only; rw [if_neg (by decide), if_neg (by decide), if_pos (.inl rfl)]; exact decide_eq_false (fun h => by omega))) (by decide)
                  clear HC HC0 RD hok hlev
                  go_wp2
                  all_goals
                    go_ret
                    exact ⟨by rw [HV.out]; rfl, HDZ.out.2.alloc HDZ.out.2.size _⟩
                by_cases b0' : b < 0
                · have HV : Hid (cc = 3) := HC.out 3 (er_form HE.out (by unfold frm; dsimp only; rw [if_neg (by decide), if_neg (by decide), if_pos (.inl rfl)]; exact decide_eq_false (fun h => by omega))) (by decide)
                  clear HC HC0 RD hok hlev
                  go_wp2
                  all_goals
                    go_ret
                    exact ⟨by rw [HV.out]; rfl, HDZ.out.2.alloc HDZ.out.2.size _⟩
                by_cases bi : (i : Int) ≤ b
                · have HV : Hid (cc = 3) := HC.out 3 (er_form HE.out (by unfold frm; dsimp only; rw [if_neg (by decide), if_neg (by decide), if_pos (.inl rfl)]; exact decide_eq_false (fun h => by omega))) (by decide)
                  clear HC HC0 RD hok hlev
                  go_wp2
                  all_goals
                    go_ret
                    exact ⟨by rw [HV.out]; rfl, HDZ.out.2.alloc HDZ.out.2.size _⟩
                have H3 : Hid (¬ v = (0, 0) → cc = 3) := fun hv => HC.out 3 (er_form HE.out (by unfold frm; dsimp only; rw [if_neg (by decide), if_neg (by decide), if_pos (.inl rfl)]; exact decide_eq_false (fun h => hv h.2.2))) (by decide)
                have HFv : Hid (v = (0, 0) → frm ⟨3, a, b, v⟩ (i : Int) = true ∧ ofB lv (v.1 : Int) (v.2 : Int) = true) := fun hv => ⟨by unfold frm; dsimp only; rw [if_neg (by decide), if_neg (by decide), if_pos (.inl rfl)]; exact decide_eq_true ⟨by omega, by omega, hv⟩, by rw [hv]; exact of_none hlev⟩
                have HED : Hid (v = (0, 0) → er lv vr l i = if 8 < dg ⟨3, a, b, v⟩ (dfun (l.take i)) then 7 else 0) := fun hv => er_deg HE.out (HFv.out hv).1 (HFv.out hv).2 (by dsimp only; omega)
                have RDv : Hid (v = (0, 0) → ∀ w, Below W.heap.size W w → Calls Try.prog 50 #[.slice (some ⟨b0, off, none⟩) l.length cap, .int .i64 (i : Int)] w fun e w' => e = .returned (.int .i64 (dg ⟨3, a, b, v⟩ (dfun (l.take i)) : Nat)) ∧ Below w.heap.size w w') := fun hv => RD.out (HFv.out hv).1
                clear RD hok hlev HFv
                generalize dg ⟨3, a, b, v⟩ (dfun (l.take i)) = D at *
                by_cases h8 : 8 < D
                · have h8' : (8 : Int) < (D : Int) := by omega
                  have H7 : Hid (v = (0, 0) → cc = 7) := fun hv => HC.out 7 (by rw [HED.out hv, if_pos h8]) (by decide)
                  clear HC HC0 HED h8
                  go_wp2_with (go_at_call 50; refine (RDv.out (Prod.ext (by assumption) (by assumption)) _ (by first | exact HDZ.out.2.alloc HDZ.out.2.size _)).mono ?_; rintro e wD ⟨rfl, hbD⟩)
                  all_goals
                    first
                      | (have hv : ¬ v = (0, 0) := by first | exact (fun h => ‹¬ v.2 = 0› (by rw [h])) | exact (fun h => ‹¬ v.1 = 0› (by rw [h]))
                         go_ret
                         exact ⟨by rw [H3.out hv]; rfl, HDZ.out.2.alloc HDZ.out.2.size _⟩)
                      | (have hv : v = (0, 0) := Prod.ext (by assumption) (by assumption)
                         go_ret
                         exact ⟨by rw [H7.out hv]; rfl, (HDZ.out.2.alloc HDZ.out.2.size _).trans (hbD.mono (HDZ.out.2.alloc HDZ.out.2.size _).size)⟩)
                · have h8' : ¬ (8 : Int) < (D : Int) := by omega
                  have HV : Hid (v = (0, 0) → chkF lv vr l (i + 1) = 0) := fun hv => HC0.out (by rw [HED.out hv, if_neg h8])
                  clear HC HC0 HED h8
                  go_wp2_with (go_at_call 50; refine (RDv.out (Prod.ext (by assumption) (by assumption)) _ (by first | exact HDZ.out.2.alloc HDZ.out.2.size _)).mono ?_; rintro e wD ⟨rfl, hbD⟩)
                  all_goals
                    first
                      | (have hv : ¬ v = (0, 0) := by first | exact (fun h => ‹¬ v.2 = 0› (by rw [h])) | exact (fun h => ‹¬ v.1 = 0› (by rw [h]))
                         go_ret
                         exact ⟨by rw [H3.out hv]; rfl, HDZ.out.2.alloc HDZ.out.2.size _⟩)
                      | (have hv : v = (0, 0) := Prod.ext (by assumption) (by assumption)
                         exact ⟨⟨i + 1, hlt, by simp, HV.out hv, (HDZ.out.1.alloc _).below hbD, (HDZ.out.2.alloc HDZ.out.2.size _).trans (hbD.mono (HDZ.out.2.alloc HDZ.out.2.size _).size)⟩, by simp [intOf]; omega⟩)
              · by_cases a0 : a < 0
                · have HV : Hid (cc = 3) := HC.out 3 (er_form HE.out (by unfold frm; dsimp only; rw [if_neg (by decide), if_neg (by decide), if_pos (.inr rfl)]; exact decide_eq_false (fun h => by omega))) (by decide)
                  clear HC HC0 RD hok hlev
                  go_wp2
                  all_goals
                    go_ret
                    exact ⟨by rw [HV.out]; rfl, HDZ.out.2.alloc HDZ.out.2.size _⟩
                by_cases ai : (i : Int) ≤ a
                · have HV : Hid (cc = 3) := HC.out 3 (er_form HE.out (by unfold frm; dsimp only; rw [if_neg (by decide), if_neg (by decide), if_pos (.inr rfl)]; exact decide_eq_false (fun h => by omega))) (by decide)
                  clear HC HC0 RD hok hlev
                  go_wp2
                  all_goals
                    go_ret
                    exact ⟨by rw [HV.out]; rfl, HDZ.out.2.alloc HDZ.out.2.size _⟩
                by_cases b0' : b < 0
                · have HV : Hid (cc = 3) := HC.out 3 (er_form HE.out (by unfold frm; dsimp only; rw [if_neg (by decide), if_neg (by decide), if_pos (.inr rfl)]; exact decide_eq_false (fun h => by omega))) (by decide)
                  clear HC HC0 RD hok hlev
                  go_wp2
                  all_goals
                    go_ret
                    exact ⟨by rw [HV.out]; rfl, HDZ.out.2.alloc HDZ.out.2.size _⟩
                by_cases bi : (i : Int) ≤ b
                · have HV : Hid (cc = 3) := HC.out 3 (er_form HE.out (by unfold frm; dsimp only; rw [if_neg (by decide), if_neg (by decide), if_pos (.inr rfl)]; exact decide_eq_false (fun h => by omega))) (by decide)
                  clear HC HC0 RD hok hlev
                  go_wp2
                  all_goals
                    go_ret
                    exact ⟨by rw [HV.out]; rfl, HDZ.out.2.alloc HDZ.out.2.size _⟩
                have H3 : Hid (¬ v = (0, 0) → cc = 3) := fun hv => HC.out 3 (er_form HE.out (by unfold frm; dsimp only; rw [if_neg (by decide), if_neg (by decide), if_pos (.inr rfl)]; exact decide_eq_false (fun h => hv h.2.2))) (by decide)
                have HFv : Hid (v = (0, 0) → frm ⟨4, a, b, v⟩ (i : Int) = true ∧ ofB lv (v.1 : Int) (v.2 : Int) = true) := fun hv => ⟨by unfold frm; dsimp only; rw [if_neg (by decide), if_neg (by decide), if_pos (.inr rfl)]; exact decide_eq_true ⟨by omega, by omega, hv⟩, by rw [hv]; exact of_none hlev⟩
                have HED : Hid (v = (0, 0) → er lv vr l i = if 8 < dg ⟨4, a, b, v⟩ (dfun (l.take i)) then 7 else 0) := fun hv => er_deg HE.out (HFv.out hv).1 (HFv.out hv).2 (by dsimp only; omega)
                have RDv : Hid (v = (0, 0) → ∀ w, Below W.heap.size W w → Calls Try.prog 50 #[.slice (some ⟨b0, off, none⟩) l.length cap, .int .i64 (i : Int)] w fun e w' => e = .returned (.int .i64 (dg ⟨4, a, b, v⟩ (dfun (l.take i)) : Nat)) ∧ Below w.heap.size w w') := fun hv => RD.out (HFv.out hv).1
                clear RD hok hlev HFv
                generalize dg ⟨4, a, b, v⟩ (dfun (l.take i)) = D at *
                by_cases h8 : 8 < D
                · have h8' : (8 : Int) < (D : Int) := by omega
                  have H7 : Hid (v = (0, 0) → cc = 7) := fun hv => HC.out 7 (by rw [HED.out hv, if_pos h8]) (by decide)
                  clear HC HC0 HED h8
                  go_wp2_with (go_at_call 50; refine (RDv.out (Prod.ext (by assumption) (by assumption)) _ (by first | exact HDZ.out.2.alloc HDZ.out.2.size _)).mono ?_; rintro e wD ⟨rfl, hbD⟩)
                  all_goals
                    first
                      | (have hv : ¬ v = (0, 0) := by first | exact (fun h => ‹¬ v.2 = 0› (by rw [h])) | exact (fun h => ‹¬ v.1 = 0› (by rw [h]))
                         go_ret
                         exact ⟨by rw [H3.out hv]; rfl, HDZ.out.2.alloc HDZ.out.2.size _⟩)
                      | (have hv : v = (0, 0) := Prod.ext (by assumption) (by assumption)
                         go_ret
                         exact ⟨by rw [H7.out hv]; rfl, (HDZ.out.2.alloc HDZ.out.2.size _).trans (hbD.mono (HDZ.out.2.alloc HDZ.out.2.size _).size)⟩)
                · have h8' : ¬ (8 : Int) < (D : Int) := by omega
                  have HV : Hid (v = (0, 0) → chkF lv vr l (i + 1) = 0) := fun hv => HC0.out (by rw [HED.out hv, if_neg h8])
                  clear HC HC0 HED h8
                  go_wp2_with (go_at_call 50; refine (RDv.out (Prod.ext (by assumption) (by assumption)) _ (by first | exact HDZ.out.2.alloc HDZ.out.2.size _)).mono ?_; rintro e wD ⟨rfl, hbD⟩)
                  all_goals
                    first
                      | (have hv : ¬ v = (0, 0) := by first | exact (fun h => ‹¬ v.2 = 0› (by rw [h])) | exact (fun h => ‹¬ v.1 = 0› (by rw [h]))
                         go_ret
                         exact ⟨by rw [H3.out hv]; rfl, HDZ.out.2.alloc HDZ.out.2.size _⟩)
                      | (have hv : v = (0, 0) := Prod.ext (by assumption) (by assumption)
                         exact ⟨⟨i + 1, hlt, by simp, HV.out hv, (HDZ.out.1.alloc _).below hbD, (HDZ.out.2.alloc HDZ.out.2.size _).trans (hbD.mono (HDZ.out.2.alloc HDZ.out.2.size _).size)⟩, by simp [intOf]; omega⟩)
            · obtain rfl : i = l.length := by omega
              have HV : Hid (cc = 0) := by show _ = _; rw [HZ.out, HF.out]
              have HDD : Hid (Below W.heap.size W wr) := hD
              clear hD hZ HR
              go_wp2
              go_ret
              exact ⟨by rw [HV.out]; rfl, HDD.out⟩
    · have g2 : vr < 0 := by omega
      rw [show chk lv vr l = 1 by unfold chk; rw [if_neg (fun h => h2 h.2)]]
      clear hl hR
      go_enter Try.func47, Try.ntmps47
      go_wp2
      go_ret
      exact ⟨rfl, by go_grown⟩
  · rcases Int.lt_or_le lv 0 with g1 | g1
    · rw [show chk lv vr l = 1 by unfold chk; rw [if_neg (fun h => h1 h.1)]]
      clear hl hR
      go_enter Try.func47, Try.ntmps47
      go_wp2
      go_ret
      exact ⟨rfl, by go_grown⟩
    · have g1' : 7 < lv := by omega
      have g0 : ¬ lv < 0 := by omega
      rw [show chk lv vr l = 1 by unfold chk; rw [if_neg (fun h => h1 h.1)]]
      clear hl hR
      go_enter Try.func47, Try.ntmps47
      go_wp2
      go_ret
      exact ⟨rfl, by go_grown⟩
end Go.Proofs.Ytfhojakhoobnhaa
