/- Contracts of cube.First and cube.Last over the seat's translation. -/
import Derived.Test.YtfhojakhoobnhaaPCbG
import Derived.Test.YtfhojakhoobnhaaPPeel
import Derived.Test.YtfhojakhoobnhaaPScB
namespace Go.Proofs.Ytfhojakhoobnhaa
open Go.RowKit
open Cb
open Tw (pm)

set_option maxHeartbeats 1000000 in
theorem cfi_err (l : Int) (a c : Option Addr) (cap cap2 : Nat) (t p : List (Nat × Nat)) (ht : ltE t) (hp : ltE p) (h1 : t.length ≤ 1000) (h2 : p.length ≤ 1000) (E : Int) (hE : fiE l t p = E) (h0 : ¬ E = 0) (W : World) (ha : ERow W a t) (hc : ERow W c p) :
    Calls Try.prog 86 #[.int .i64 l, .slice a t.length cap, .slice c p.length cap2] W fun e w' => e = .returned (.tuple #[.slice none 0 0, .int .i64 E]) ∧ Below W.heap.size W w' := by
  have HL : Hid (Ret 52 #[.int .i64 (t.length : Int)] (.int .i64 (lgz t.length))) := clog_any t.length (by omega)
  have HH : Hid (∀ w, Below W.heap.size W w → Calls Try.prog 51 #[.int .i64 l, .bool (decide ((p.length : Int) ≤ lgz t.length)), .slice a t.length cap, .slice c p.length cap2] w fun e w' => e = .returned (.int .i64 E) ∧ Below w.heap.size w w') := fun w hb => by
    rw [← hE]; exact hind_any l _ a c cap cap2 t p ht hp (by omega) (by omega) w (ha.below hb) (hc.below hb)
  clear hE ha hc ht hp h1 h2
  generalize lgz t.length = g at *
  go_enter Try.func86, Try.ntmps86
  go_wp2_with (first | (go_at_call 52; refine (HL.out.go _).mono ?_; rintro e w1 ⟨rfl, hb1⟩) | (go_at_call 51; refine (HH.out _ hb1).mono ?_; rintro e w2 ⟨rfl, hb2⟩))
  refine bodyPost_ret (v := .tuple #[.slice none 0 0, .int .i64 E]) (by simp [results, Try.results86, go_sem]) rfl ⟨rfl, ?_⟩
  exact hb1.trans (hb2.mono hb1.size)
set_option maxHeartbeats 1000000 in
theorem cfi_ok (k : Nat) (hk : k < 8) (a c : Option Addr) (cap cap2 m : Nat) (t p : List (Nat × Nat)) (ht : ltE t) (hp : ltE p) (h1 : t.length ≤ 1000) (h2 : p.length + m ≤ 16) (hl : t.length = 2 ^ (p.length + m)) (ot : ofT k t) (op : ofT k p) (W : World) (ha : ERow W a t) (hc : ERow W c p) :
    Calls Try.prog 86 #[.int .i64 (k : Int), .slice a t.length cap, .slice c p.length cap2] W fun e w' => ∃ a' cap', e = .returned (.tuple #[.slice a' (2 ^ m) cap', .int .i64 0]) ∧ ERow w' a' (firsts t p) ∧ Below W.heap.size W w' := by
  have hg : lgz t.length = ((p.length + m : Nat) : Int) := by rw [hl, lgz_two _ h2]
  have HL : Hid (Ret 52 #[.int .i64 (t.length : Int)] (.int .i64 ((p.length + m : Nat) : Int))) := by
    have := clog_any t.length (by omega)
    rw [hg] at this
    exact this
  have HH : Hid (∀ w, Below W.heap.size W w → Calls Try.prog 51 #[.int .i64 (k : Int), .bool true, .slice a t.length cap, .slice c p.length cap2] w fun e w' => e = .returned (.int .i64 0) ∧ Below w.heap.size w w') := fun w hb => by
    have := hind_any (k : Int) true a c cap cap2 t p ht hp (by omega) (by omega) w (ha.below hb) (hc.below hb)
    rw [hnd_mk ⟨by omega, by omega⟩ rfl (all_of.2 ot) (all_of.2 op)] at this
    exact this
  have HF : Hid (∀ w, Below W.heap.size W w → Calls Try.prog 53 #[.int .i64 (k : Int), .slice a t.length cap, .slice c p.length cap2] w fun e w' => ∃ a' cap', e = .returned (.slice a' (2 ^ m) cap') ∧ ERow w' a' (firsts t p) ∧ Below w.heap.size w w') := fun w hb => first_ok k hk a c cap cap2 m t p hl h1 ht hp ot op w (ha.below hb) (hc.below hb)
  have hle : (p.length : Int) ≤ ((p.length + m : Nat) : Int) := by omega
  clear ha hc ht hp h1 h2 hg ot op hl
  generalize p.length + m = q at *
  generalize 2 ^ m = M at *
  go_enter Try.func86, Try.ntmps86
  go_wp2_with (first | (go_at_call 52; refine (HL.out.go _).mono ?_; rintro e w1 ⟨rfl, hb1⟩) | (go_at_call 51; refine (HH.out _ hb1).mono ?_; rintro e w2 ⟨rfl, hb2⟩; have hb := hb1.trans (hb2.mono hb1.size)) | (go_at_call 53; refine (HF.out _ hb).mono ?_; rintro e w3 ⟨a', cap', rfl, hE, hb3⟩))
  refine bodyPost_ret (v := .tuple #[.slice a' M cap', .int .i64 0]) (by simp [results, Try.results86, go_sem]) rfl ⟨a', cap', rfl, hE, ?_⟩
  exact hb.trans (hb3.mono hb.size)
end Go.Proofs.Ytfhojakhoobnhaa

/- Contracts of sumcheck.corner, total and bound over the seat's translation. -/
namespace Go.Proofs.Ytfhojakhoobnhaa
open Go.RowKit
open Cb Ln Sc
open Tw (pm)

theorem info_elemS : ∃ i, Try.prog.info? 24 = some i ∧ i.zero = some (.agg #[.int .u64 0, .int .u64 0]) ∧ i.size = 2 ∧ i.bytes = 16 := info_elemX
theorem info_rowS : ∃ i, Try.prog.info? 26 = some i ∧ i.zero = some (.slice none 0 0) ∧ i.size = 1 ∧ i.bytes = 24 := by
  have h : (Try.prog.info? 26).map (fun i => (i.zero, i.size, i.bytes)) = some (some (.slice none 0 0), 1, 24) := by kernel_rfl
  obtain ⟨i, hi, he⟩ := Option.map_eq_some_iff.1 h
  simp only [Prod.mk.injEq] at he
  exact ⟨i, hi, he.1, he.2.1, he.2.2⟩
set_option maxHeartbeats 4000000 in
set_option maxRecDepth 100000 in
theorem scorner (a : Option Addr) (cap N i : Nat) (ts : List (List (Nat × Nat))) (h10 : ts.length ≤ 1000) (hN : lenT ts N) (hi : i < N) (W : World) (hT : TRow W a ts) :
    Calls Try.prog 77 #[.slice a ts.length cap, .int .i64 (i : Int)] W fun e w' => ∃ g, e = .returned (.slice (some ⟨g, 0, none⟩) ts.length ts.length) ∧ ERow w' (some ⟨g, 0, none⟩) (cor ts i) ∧ Below W.heap.size W w' := by
  obtain ⟨e0, he0, ez0, ez1, ez2⟩ := info_elemS
  have HE : Hid (Try.prog.info? 24 = some e0 ∧ e0.zero = some (.agg #[.int .u64 0, .int .u64 0]) ∧ e0.size = 2 ∧ e0.bytes = 16) := ⟨he0, ez0, ez1, ez2⟩
  have HT := Hid.mkS hT
  have HN := Hid.mkS hN
  obtain ⟨n, hn⟩ : ∃ n, n = ts.length := ⟨_, rfl⟩
  rw [← hn] at h10 ⊢
  have Hn := Hid.mkS hn
  clear he0 ez0 ez1 ez2 hT hN hn
  go_enter Try.func77, Try.ntmps77
  go_wp2_with (at_make; refine wpList_make_full _ rfl _ _ 26 rfl 0 24 e0 (.agg #[.int .u64 0, .int .u64 0]) 2 Try.underlying26 HE.out.1 HE.out.2.1 HE.out.2.2.1 .i64 .i64 _ _ n rfl rfl rfl rfl (by rw [HE.out.2.2.2]; omega) (by simp only [maxLen]; omega) (Nat.zero_le _) ?_; intro w8 own8 hgr8)
  have D8 : Hid (Below W.heap.size W w8) := (Below.refl _ _).grown hgr8 (Nat.le_refl _) (fun k hk => by cases hk)
  obtain ⟨f0, R0⟩ := own_rowT own8 (rfl : n * 2 = n * 2)
  clear own8 hgr8 HE
  go_loopw [13] (fun u w9 => ∃ (j : Nat) (f : Nat → Value), j ≤ n ∧ u = .int .i64 j ∧ w9.rowIs W.heap.size 24 (n * 2) f ∧ Hid (∀ x, x < j * 2 → f x = tcell (el (cor ts i)) x) ∧ Below W.heap.size W w9) (fun u _ => n - (intOf u).toNat)
  case atStart => exact ⟨0, f0, Nat.zero_le _, rfl, R0, (fun x hx => by omega), D8.out⟩
  case round =>
    obtain ⟨j, f, hj, rfl, hRr, HF, hD⟩ := hrel
    clear R0 D8
    by_cases hlt : j < n
    · have hjt : j < ts.length := by rw [← Hn.out]; exact hlt
      obtain ⟨b, off, ta, tc, rfl, hb, cb, hEr⟩ := HT.out.cells j hjt
      obtain ⟨b', off', rfl, hb', c1, c0⟩ := hEr.cells i (by rw [HN.out.at hjt]; exact hi)
      rw [HN.out.at hjt] at cb
      have HX : Hid (el (cor ts i) j = (tb ts j).getD i (0, 0)) := cor_el ts i j
      have db := keepc hD cb
      have d1 := keepc hD c1
      have d0 := keepc hD c0
      have y1 := hRr.cell (i := j * 2) (by omega)
      have y0 := hRr.frozen (j * 2)
      have y3 := hRr.cell (i := j * 2 + 1) (by omega)
      have y2 := hRr.frozen (j * 2 + 1)
      have n1 : ¬ b' = W.heap.size := by omega
      have HDr : Hid (wr.rowIs W.heap.size 24 (n * 2) f ∧ Below W.heap.size W wr) := ⟨hRr, hD⟩
      have i1 : (i : Int) < (N : Int) := by omega
      have i2 : (0 : Int) ≤ (i : Int) := by omega
      have j1 : (j : Int) < (n : Int) := by omega
      have j2 : (0 : Int) ≤ (j : Int) := by omega
      clear cb c1 c0 hEr HN HT hRr hD
      generalize (tb ts j).getD i (0, 0) = z at *
      go_wp2
      refine ⟨⟨j + 1, _, hlt, by simp, (HDr.out.1.set (j * 2) _).set (j * 2 + 1) _, fun x hx => ?_, (HDr.out.2.setCell (by simp) _).setCell (by simp) _⟩, by simp [intOf]; omega⟩
      have hF := HF.out x
      unfold tcell at hF ⊢
      by_cases h1 : x = j * 2 + 1
      · rw [if_pos h1, if_neg (by omega), show x / 2 = j by omega, HX.out]
      · rw [if_neg h1]
        by_cases h2 : x = j * 2
        · rw [if_pos h2, if_pos (by omega), show x / 2 = j by omega, HX.out]
        · rw [if_neg h2]; exact hF (by omega)
    · obtain rfl : j = n := by omega
      have HEr : Hid (ERow wr (some ⟨W.heap.size, 0, none⟩) (cor ts i)) := row_tab (by rw [cor_len]; exact Hn.out.symm) hRr fun x hx => HF.out x hx
      have HDD : Hid (Below W.heap.size W wr) := hD
      clear HF hRr hD HT HN
      go_wp2
      go_ret
      exact ⟨_, rfl, HEr.out, HDD.out⟩
set_option maxHeartbeats 4000000 in
set_option maxRecDepth 100000 in
theorem stotal (k : Nat) (hk : k < 8) (sa a : Option Addr) (scap cap N : Nat) (l : List Stp) (ts : List (List (Nat × Nat))) (hl : ∀ o ∈ l, o.ok) (hm : l.length ≤ 100000) (h0 : 0 < ts.length) (h10 : ts.length ≤ 1000) (hN : lenT ts N) (hN1 : N ≤ 100000) (ht : ltT ts) (ot : ofTs k ts) (hc : chk (k : Int) (ts.length : Int) l = 0) (hcF : chkF (k : Int) (ts.length : Int) l l.length = 0) (W : World) (hR : ORow W sa l) (hT : TRow W a ts) :
    Calls Try.prog 49 #[.int .i64 (k : Int), .slice sa l.length scap, .slice a ts.length cap] W fun e w' => e = .returned (.tuple #[.agg #[.int .u64 ((sv l ts N).1 : Int), .int .u64 ((sv l ts N).2 : Int)], .int .i64 0]) ∧ Below W.heap.size W w' := by
  have HC : Hid (∀ (i : Nat) (w : World), i < N → Below W.heap.size W w → Calls Try.prog 77 #[.slice a ts.length cap, .int .i64 (i : Int)] w fun e w' => ∃ g, e = .returned (.slice (some ⟨g, 0, none⟩) ts.length ts.length) ∧ ERow w' (some ⟨g, 0, none⟩) (cor ts i) ∧ Below w.heap.size w w') := fun i w hi hb => scorner a cap N i ts h10 hN hi w (hT.below hb)
  have HV : Hid (∀ (i : Nat) (w : World) (g : Nat), Below W.heap.size W w → ERow w (some ⟨g, 0, none⟩) (cor ts i) → Calls Try.prog 23 #[.int .i64 (k : Int), .slice sa l.length scap, .slice (some ⟨g, 0, none⟩) ts.length ts.length] w fun e w' => e = .returned (.tuple #[.agg #[.int .u64 ((lv l (cor ts i)).1 : Int), .int .u64 ((lv l (cor ts i)).2 : Int)], .int .i64 0]) ∧ Below w.heap.size w w') := fun i w g hb he => by
    have := xeval_ok k hk sa (some ⟨g, 0, none⟩) scap ts.length l (cor ts i) hl (ltE_cor ht i) (by rw [cor_len]; exact h10) w (hR.below hb) he hm (by rw [cor_len]; exact hc) (ofT_cor hk ot i)
    rw [cor_len] at this
    exact this
  have HL : Hid (∀ n, lt2 (sv l ts n)) := fun n => (lt_sv hk hl hcF ht ot n).1
  have HLv : Hid (∀ i, lt2 (lv l (cor ts i))) := fun i => by
    have := vfun_of hk (ltE_cor ht i) (ofT_cor hk ot i) hl (Nat.le_refl _) hcF (l.length - 1)
    rw [List.take_of_length_le (Nat.le_refl _)] at this
    exact this.1
  have K0 : Wst W ((W.alloc (Obj.cells #[.int .u64 0, .int .u64 0] 24)).alloc (Obj.cells #[.int .u64 0, .int .u64 0] 24)) (W.heap.size + 1) (0, 0) :=
    ⟨⟨⟨by simp [go_sem], by simp [go_sem]⟩, by simp [go_sem], by simp [go_sem]⟩, ⟨⟨by simp [go_sem], by simp [go_sem]⟩, by simp [go_sem], by simp [go_sem]⟩, by go_grown⟩
  obtain ⟨b0, off0, ra0, rc0, rfl, hb0, cb0, _⟩ := hT.cells 0 h0
  rw [Nat.add_zero, hN.at h0] at cb0
  have h0' : (0 : Int) < (ts.length : Int) := by omega
  have n0 : ¬ b0 = W.heap.size := by omega
  have n1 : ¬ b0 = W.heap.size + 1 := by omega
  have n2 : ¬ W.heap.size = b0 := by omega
  have n3 : ¬ W.heap.size + 1 = b0 := by omega
  clear hR hT hN ht ot hc hcF hl
  go_enter Try.func49, Try.ntmps49
  go_wp2_with fail
  clear cb0
  go_loopw [16] (fun u wr => ∃ (j : Nat) (o : Nat × Nat), j ≤ N ∧ u = .int .i64 j ∧ Hid (o = sv l ts j) ∧ Hid (Wst W wr (W.heap.size + 1) o)) (fun u _ => N - (intOf u).toNat)
  case atStart => exact ⟨0, (0, 0), Nat.zero_le _, rfl, (by rfl), K0⟩
  case round =>
    obtain ⟨j, o, hj, rfl, HS, K⟩ := hrel
    clear K0
    by_cases hlt : j < N
    · have HCj := Hid.mkS (fun w => HC.out j w hlt)
      have HVj := Hid.mkS (HV.out j)
      have ho : lt2 o := by rw [HS.out]; exact HL.out j
      have hz := HLv.out j
      have HN : Hid (xa o (lv l (cor ts j)) = sv l ts (j + 1)) := by show _ = _; rw [HS.out]; rfl
      have HAd : Ret 27 #[.agg #[.int .u64 (o.1 : Int), .int .u64 (o.2 : Int)], .agg #[.int .u64 ((lv l (cor ts j)).1 : Int), .int .u64 ((lv l (cor ts j)).2 : Int)]] (.agg #[.int .u64 ((xa o (lv l (cor ts j))).1 : Int), .int .u64 ((xa o (lv l (cor ts j))).2 : Int)]) := fun w => add_any _ _ _ _ ho.1 ho.2 hz.1 hz.2 w
      have HAD := Hid.mkS HAd
      have j1 : (j : Int) < (N : Int) := by omega
      clear HC HV HL HLv HS ho hz HAd
      generalize lv l (cor ts j) = z at *
      generalize xa o z = y at *
      go_wp2_with (first
        | (go_at_call 77; refine (HCj.out _ K.out.d).mono ?_; rintro e w1 ⟨g, rfl, hEg, hb1⟩; have K1 : Hid (Wst W w1 (W.heap.size + 1) o ∧ ERow w1 (some ⟨g, 0, none⟩) (cor ts j)) := ⟨K.out.below hb1, hEg⟩; clear hb1 hEg K)
        | (go_at_call 23; refine (HVj.out _ _ K1.out.1.d K1.out.2).mono ?_; rintro e w2 ⟨rfl, hb2⟩; have K2 := Hid.mkS (K1.out.1.below hb2); clear hb2 K1; obtain ⟨⟨s1, s0⟩, _, _⟩ := K2.out.o; have hz : W.heap.size + 1 < w2.heap.size := K2.out.o.toEl.lt)
        | (go_at_call 27; refine (HAD.out.go _).mono ?_; rintro e w3 ⟨rfl, hb3⟩; have K3 := Hid.mkS ((K2.out.below ((Below.refl _ _).alloc (Nat.le_refl _) _)).below hb3); clear hb3 s1 s0 hz K2; obtain ⟨⟨s1, s0⟩, t1, t0⟩ := K3.out.o))
      exact ⟨⟨j + 1, y, hlt, by simp, HN, K3.out.put (by omega) y⟩, by simp [intOf]; omega⟩
    · obtain rfl : j = N := by omega
      obtain rfl : o = sv l ts j := HS.out
      have HD : Hid (Below W.heap.size W wr) := K.out.d
      obtain ⟨⟨o1, o0⟩, _, _⟩ := K.out.o
      obtain ⟨⟨r1, r0⟩, t1, t0⟩ := K.out.r
      clear K HS HC HV HL HLv
      go_wp2
      refine bodyPost_ret (v := .tuple #[.agg #[.int .u64 ((sv l ts j).1 : Int), .int .u64 ((sv l ts j).2 : Int)], .int .i64 0]) (by simp [results, Try.results49, go_sem, *]) rfl ⟨rfl, ?_⟩
      exact below2 (p := W.heap.size) HD.out (Nat.le_refl _) _ _
/-- A row of slices and a row of elements lie apart. -/
theorem row_apart {w : World} {g n : Nat} {T : TypeId} {f : Nat → Value} {ra : Option Addr} {es : List (Nat × Nat)} (R : w.rowIs g T n f) (hf : ∀ p, p < n → ∃ s l c, f p = .slice s l c) (hE : ERow w ra es) (h0 : 0 < es.length) : ∀ b off, ra = some ⟨b, off, none⟩ → b ≠ g := by
  rintro b off rfl rfl
  obtain ⟨b', off', e, _, c1, _⟩ := hE.cells 0 h0
  simp only [Option.some.injEq, Addr.mk.injEq] at e
  obtain ⟨rfl, rfl, _⟩ := e
  rw [Nat.zero_mul, Nat.add_zero] at c1
  by_cases hn : off < n
  · obtain ⟨s, l, c, e⟩ := hf off hn
    rw [R.cell hn, e] at c1
    cases c1
  · obtain ⟨cs, hb, hs, _⟩ := R
    have : cs[off]? = none := Array.getElem?_eq_none (by omega)
    simp [World.cell?, hb, this] at c1
theorem ERow.setG {w : World} {g i : Nat} {v : Value} {ra : Option Addr} {es : List (Nat × Nat)} (hE : ERow w ra es) (h : ∀ b off, ra = some ⟨b, off, none⟩ → b ≠ g) : ERow (w.setCell ⟨g, i, none⟩ v) ra es := ⟨fun j hj => by
  obtain ⟨b, off, e, h1, h2, h3⟩ := hE.cells j hj
  have hn := h b off e
  have hn' : ¬ g = b := fun e => hn e.symm
  exact ⟨b, off, e, by simpa using h1, by simp [go_sem, *], by simp [go_sem, *]⟩⟩
theorem TRow.setG {w : World} {g n i : Nat} {T : TypeId} {f : Nat → Value} {v : Value} {a : Option Addr} {ts : List (List (Nat × Nat))} (h : TRow w a ts) (R : w.rowIs g T n f) (hf : ∀ p, p < n → ∃ s l c, f p = .slice s l c) (hl : ∀ p, p < ts.length → 0 < (tb ts p).length) (ha : ∀ b off, a = some ⟨b, off, none⟩ → b ≠ g) : TRow (w.setCell ⟨g, i, none⟩ v) a ts := ⟨fun p hp => by
  obtain ⟨b, off, ra, rc, e, h1, h2, h3⟩ := h.cells p hp
  have hn := ha b off e
  have hn' : ¬ g = b := fun e => hn e.symm
  exact ⟨b, off, ra, rc, e, by simpa using h1, by simp [go_sem, *], h3.setG (row_apart R hf h3 (hl p hp))⟩⟩
/-- The tables that lie in a row of slices. -/
def RowOf (w : World) (f : Nat → Value) (j : Nat) (ts : List (List (Nat × Nat))) : Prop := ∀ p, p < j → ∃ ra rc, f p = .slice ra (tb ts p).length rc ∧ ERow w ra (tb ts p)
theorem RowOf.t {w : World} {g n : Nat} {T : TypeId} {f : Nat → Value} {ts : List (List (Nat × Nat))} (R : w.rowIs g T n f) (h : RowOf w f n ts) (hn : ts.length = n) : TRow w (some ⟨g, 0, none⟩) ts := ⟨fun i hi => by
  obtain ⟨ra, rc, e, hE⟩ := h i (by omega)
  refine ⟨g, 0, ra, rc, rfl, R.lt, ?_, hE⟩
  rw [Nat.zero_add, R.cell (by omega), e]⟩
theorem make_rows (w : World) (n : Nat) (hn : n ≤ 100000) : (Instr.makeSlice 25 (.int .i64 (n : Int)) (.int .i64 (n : Int))).run Try.prog w = .ok (.slice (some ⟨w.heap.size, 0, none⟩) n n) (w.alloc (.cells (madeCells #[.slice none 0 0] n) 26)) := by
  obtain ⟨i, hi, hz, hs, hb⟩ := info_rowS
  exact run_make_row 25 26 i (.slice none 0 0) Try.underlying25 hi hz hs rfl .i64 .i64 n (by rw [hb]; omega) (by omega) w
/-- Rows of slices that are being filled. -/
structure Fl (W w : World) (n : Nat) (f : Nat → Value) (j : Nat) (ts : List (List (Nat × Nat))) : Prop where
  r : w.rowIs W.heap.size 26 n f
  z : ∀ p, p < n → ∃ s l c, f p = .slice s l c
  o : RowOf w f j ts
  d : Below W.heap.size W w
theorem Fl.below {W w w' : World} {n j : Nat} {f : Nat → Value} {ts : List (List (Nat × Nat))} (h : Fl W w n f j ts) (hb : Below w.heap.size w w') : Fl W w' n f j ts :=
  ⟨h.r.of_block (hb.block _ h.r.lt), h.z, fun p hp => by obtain ⟨ra, rc, e, hE⟩ := h.o p hp; exact ⟨ra, rc, e, hE.below hb⟩, h.d.trans (hb.mono h.d.size)⟩
theorem Fl.put {W w : World} {n j : Nat} {f : Nat → Value} {ts : List (List (Nat × Nat))} (h : Fl W w n f j ts) (hj : j < n) (hl : ∀ p, p < n → 0 < (tb ts p).length) (ra : Option Addr) (len rc : Nat) (hlen : (tb ts j).length = len) (hE : ERow w ra (tb ts j)) : Fl W (w.setCell ⟨W.heap.size, j, none⟩ (.slice ra len rc)) n (fun p => if p = j then .slice ra len rc else f p) (j + 1) ts := by
  refine ⟨h.r.set j _, fun p hp => ?_, fun p hp => ?_, h.d.setCell (Nat.le_refl _) _⟩
  · by_cases e : p = j
    · rw [if_pos e]; exact ⟨_, _, _, rfl⟩
    · rw [if_neg e]; exact h.z p hp
  · by_cases e : p = j
    · subst e
      refine ⟨ra, rc, by rw [if_pos rfl, hlen], hE.setG (row_apart h.r h.z hE (hl p hj))⟩
    · obtain ⟨ra', rc', e', hE'⟩ := h.o p (by omega)
      refine ⟨ra', rc', by rw [if_neg e]; exact e', hE'.setG (row_apart h.r h.z hE' (hl p (by omega)))⟩
theorem Fl.start (W : World) (n : Nat) (ts : List (List (Nat × Nat))) : Fl W (W.alloc (.cells (madeCells #[.slice none 0 0] n) 26)) n (fun _ => .slice none 0 0) 0 ts :=
  ⟨World.rowIs_made W _ n _, fun _ _ => ⟨_, _, _, rfl⟩, fun p hp => by omega, (Below.refl _ _).alloc (Nat.le_refl _) _⟩
set_option maxHeartbeats 4000000 in
set_option maxRecDepth 100000 in
theorem sbound (k : Nat) (hk : k < 8) (a ra : Option Addr) (cap rcap m : Nat) (ts : List (List (Nat × Nat))) (x : Nat × Nat) (h10 : ts.length ≤ 1000) (hm : m ≤ 8) (hN : lenT ts (2 ^ (1 + m))) (ht : ltT ts) (ot : ofTs k ts) (hx : lt2 x) (ox : ofE k x) (W : World) (hT : TRow W a ts) (hE : ERow W ra [x]) :
    Calls Try.prog 60 #[.int .i64 (k : Int), .slice a ts.length cap, .slice ra 1 rcap] W fun e w' => ∃ g, e = .returned (.tuple #[.slice (some ⟨g, 0, none⟩) ts.length ts.length, .int .i64 0]) ∧ TRow w' (some ⟨g, 0, none⟩) (bnd ts x) ∧ Below W.heap.size W w' ∧ W.heap.size ≤ g := by
  have hp : 2 ^ (1 + m) ≤ 512 := Nat.pow_le_pow_right (by decide) (show 1 + m ≤ 9 by omega)
  have HFi : Hid (∀ (j : Nat) (w : World) (ta : Option Addr) (tc : Nat), j < ts.length → Below W.heap.size W w → ERow w ta (tb ts j) → Calls Try.prog 86 #[.int .i64 (k : Int), .slice ta (2 ^ (1 + m) : Nat) tc, .slice ra 1 rcap] w fun e w' => ∃ a' cap', e = .returned (.tuple #[.slice a' (2 ^ m) cap', .int .i64 0]) ∧ ERow w' a' (tb (bnd ts x) j) ∧ Below w.heap.size w w') := fun j w ta tc hj hb he => by
    have hlen := hN.at hj
    have := cfi_ok k hk ta ra tc rcap m (tb ts j) [x] (ht.at j) (by intro e he; simp at he; subst he; exact hx) (by rw [hlen]; omega) (by simp; omega) (by rw [hlen]; simp) (ot.at j) (by intro e he; simp at he; subst he; exact ox) w he (hE.below hb)
    rw [hlen] at this
    rw [bnd_tb ts x j hj, ← firsts_one]
    exact this
  have hmk := fun w => make_rows w ts.length (by omega)
  have HL : Hid (∀ p, p < ts.length → (tb (bnd ts x) p).length = 2 ^ m) := fun p hp => by
    rw [bnd_tb ts x p hp, fst1, half_len, hN.at hp, Nat.add_comm, Nat.pow_succ]; omega
  have HM0 : Hid (0 < 2 ^ m) := Nat.two_pow_pos m
  have HT := Hid.mkS hT
  have HN := Hid.mkS hN
  have K0 := Hid.mkS (Fl.start W ts.length (bnd ts x))
  have HB := Hid.mkS (bnd_len ts x)
  clear hT hN ht ot hx ox hE
  generalize 2 ^ m = M at *
  generalize 2 ^ (1 + m) = M2 at *
  generalize bnd ts x = bs at *
  obtain ⟨n, hn⟩ : ∃ n, n = ts.length := ⟨_, rfl⟩
  rw [← hn] at h10 hmk K0 ⊢
  have Hn := Hid.mkS hn
  clear hn hp
  go_enter Try.func60, Try.ntmps60
  go_wp2
  generalize W.alloc (.cells (madeCells #[.slice none 0 0] n) 26) = w0 at *
  clear hmk
  go_loopw [18] (fun u wr => ∃ (j : Nat) (f : Nat → Value), j ≤ n ∧ u = .int .i64 j ∧ Hid (Fl W wr n f j bs)) (fun u _ => n - (intOf u).toNat)
  case atStart => exact ⟨0, _, Nat.zero_le _, rfl, K0⟩
  case round =>
    obtain ⟨j, f, hj, rfl, K⟩ := hrel
    clear K0
    by_cases hlt : j < n
    · have hjt : j < ts.length := by rw [← Hn.out]; exact hlt
      obtain ⟨b, off, ta, tc, rfl, hb, cb, hEr⟩ := HT.out.cells j hjt
      rw [HN.out.at hjt] at cb
      have db := keepc K.out.d cb
      have HFj : Hid (∀ w, Below W.heap.size W w → Calls Try.prog 86 #[.int .i64 (k : Int), .slice ta M2 tc, .slice ra 1 rcap] w fun e w' => ∃ a' cap', e = .returned (.tuple #[.slice a' M cap', .int .i64 0]) ∧ ERow w' a' (tb bs j) ∧ Below w.heap.size w w') := fun w hb => HFi.out j w ta tc hjt hb (hEr.below hb)
      have j1 : (j : Int) < (n : Int) := by omega
      have j2 : (0 : Int) ≤ (j : Int) := by omega
      clear cb hEr HFi
      go_wp2_with (go_at_call 86; refine (HFj.out _ K.out.d).mono ?_; rintro e w1 ⟨a', cap', rfl, hE1, hb1⟩; have K1 : Hid (Fl W w1 n f j bs ∧ ERow w1 a' (tb bs j)) := ⟨K.out.below hb1, hE1⟩; clear hb1 hE1 K db; have c0 := K1.out.1.r.cell hlt; have z0 := K1.out.1.r.frozen j)
      exact ⟨⟨j + 1, _, hlt, by simp, K1.out.1.put hlt (fun p hp => by rw [HL.out p (by rw [← Hn.out]; exact hp)]; exact HM0.out) a' M cap' (HL.out j hjt) K1.out.2⟩, by simp [intOf]; omega⟩
    · obtain rfl : j = n := by omega
      have HTt : Hid (TRow wr (some ⟨W.heap.size, 0, none⟩) bs ∧ Below W.heap.size W wr) := ⟨RowOf.t K.out.r K.out.o (by rw [HB.out]; exact Hn.out.symm), K.out.d⟩
      clear K HFi HT HN HL HM0 HB
      go_wp2
      refine bodyPost_ret (v := .tuple #[.slice (some ⟨W.heap.size, 0, none⟩) j j, .int .i64 0]) (by simp [results, Try.results60, go_sem]) rfl ⟨_, rfl, HTt.out.1, HTt.out.2, Nat.le_refl _⟩
end Go.Proofs.Ytfhojakhoobnhaa
