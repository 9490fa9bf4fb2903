/- Contracts of sumcheck.round and proof over the seat's translation. -/
import Derived.Test.YtfhojakhoobnhaaPScE
namespace Go.Proofs.Ytfhojakhoobnhaa
open Go.RowKit
open Cb Ln Sc
open Tw (pm)

theorem Fine.plk {k n : Nat} {l : List Stp} {ts : List (List (Nat × Nat))} (h : Fine k n l ts) : plk k (dgm l + 1) := fit_plk h.k8 (by rw [show (((dgm l + 1 : Nat) : Int) - 1) = (dgm l : Int) by omega]; exact h.fit)
set_option maxHeartbeats 4000000 in
set_option maxRecDepth 100000 in
theorem sround {k n : Nat} {l : List Stp} {ts : List (List (Nat × Nat))} (hF : Fine k (n + 1) l ts) (hn : n ≤ 8) (sa a : Option Addr) (scap cap : Nat) (hl : ∀ o ∈ l, o.ok) (hm : l.length ≤ 100000) (h10 : ts.length ≤ 1000) (ht : ltT ts) (W : World) (hR : ORow W sa l) (hT : TRow W a ts) :
    Calls Try.prog 59 #[.int .i64 (k : Int), .slice sa l.length scap, .slice a ts.length cap] W fun e w' => ∃ g, e = .returned (.tuple #[.slice (some ⟨g, 0, none⟩) (dgm l + 1) (dgm l + 1), .int .i64 0]) ∧ ERow w' (some ⟨g, 0, none⟩) (rnd l ts (2 ^ n)) ∧ Below W.heap.size W w' := by
  have HDg : Hid (Calls Try.prog 58 #[.slice sa l.length scap] W fun e w' => e = .returned (.int .i64 (dgm l : Int)) ∧ Below W.heap.size W w') := by
    have := sdegree sa scap l hl hm W hR
    rw [dgI_dgm (by omega) hF.chk] at this
    exact this
  have hd8 := hF.d8
  have hpk := hF.plk
  have HBd : Hid (∀ (i : Nat) (w : World) (ra : Option Addr), i < dgm l + 1 → Below W.heap.size W w → ERow w ra [pl i] → Calls Try.prog 60 #[.int .i64 (k : Int), .slice a ts.length cap, .slice ra 1 1] w fun e w' => ∃ g, e = .returned (.tuple #[.slice (some ⟨g, 0, none⟩) ts.length ts.length, .int .i64 0]) ∧ TRow w' (some ⟨g, 0, none⟩) (bnd ts (pl i)) ∧ Below w.heap.size w w' ∧ w.heap.size ≤ g) := fun i w ra hi hb he =>
    sbound k hF.k8 a ra cap 1 n ts (pl i) h10 (by omega) (by rw [Nat.add_comm]; exact hF.len) ht hF.oft (lt_pl (by omega)) (hpk i hi) w (hT.below hb) he
  have HTt : Hid (∀ (i g : Nat) (w : World), i < dgm l + 1 → Below W.heap.size W w → TRow w (some ⟨g, 0, none⟩) (bnd ts (pl i)) → Calls Try.prog 49 #[.int .i64 (k : Int), .slice sa l.length scap, .slice (some ⟨g, 0, none⟩) ts.length ts.length] w fun e w' => e = .returned (.tuple #[.agg #[.int .u64 ((sv l (bnd ts (pl i)) (2 ^ n)).1 : Int), .int .u64 ((sv l (bnd ts (pl i)) (2 ^ n)).2 : Int)], .int .i64 0]) ∧ Below w.heap.size w w') := fun i g w hi hb he => by
    have := (hF.bnd (hpk i hi)).total sa (some ⟨g, 0, none⟩) scap ts.length hl hm (by rw [bnd_len]; exact h10) (ltT_bnd ht _) w (hR.below hb) he
    rw [bnd_len] at this
    exact this
  have HEl : Hid (∀ i, i < dgm l + 1 → el (rnd l ts (2 ^ n)) i = sv l (bnd ts (pl i)) (2 ^ n)) := fun i hi => rnd_el l ts (2 ^ n) hi
  have HLn := Hid.mkS (rnd_len l ts (2 ^ n))
  obtain ⟨e0, he0, ez0, ez1, ez2⟩ := info_elemS
  have HE : Hid (Try.prog.info? 24 = some e0 ∧ e0.zero = some (.agg #[.int .u64 0, .int .u64 0]) ∧ e0.size = 2 ∧ e0.bytes = 16) := ⟨he0, ez0, ez1, ez2⟩
  clear he0 ez0 ez1 ez2 hR hT hl ht hF hpk
  generalize rnd l ts (2 ^ n) = rv at *
  generalize hD : dgm l = D at *
  obtain ⟨N, hN⟩ : ∃ N, N = D + 1 := ⟨_, rfl⟩
  rw [← hN] at HBd HTt HEl HLn ⊢
  have hw : IntKind.i64.wrap ((D : Int) + 1) = (N : Int) := by rw [IntKind.wrap_i64]; omega
  have hw2 : (D : Int) + 1 = (N : Int) := by omega
  have hw3 : wrap64 (N : Int) = (N : Int) := by unfold wrap64; omega
  have HD8 : Hid (N ≤ 9) := by show _ ≤ _; omega
  clear hD hN hd8
  go_enter Try.func59, Try.ntmps59
  go_wp2_with (first
    | (go_at_call 58; refine HDg.out.mono ?_; rintro e w1 ⟨rfl, hb1⟩; have D1 := Hid.mkS hb1; clear hb1)
    | (at_make; refine wpList_make_full _ rfl _ _ 26 rfl 0 24 e0 (.agg #[.int .u64 0, .int .u64 0]) 2 Try.underlying26 HE.out.1 HE.out.2.1 HE.out.2.2.1 .i64 .i64 _ _ N rfl rfl (by first | rfl | exact hw3) (by first | rfl | exact hw3) (by rw [HE.out.2.2.2]; have := HD8.out; omega) (by simp only [maxLen]; have := HD8.out; omega) (Nat.zero_le _) ?_; intro w8 own8 hgr8; have D8 : Hid (Below W.heap.size W w8) := D1.out.grown hgr8 D1.out.size (fun k hk => by cases hk)))
  obtain ⟨f0, R0⟩ := own_rowT own8 (rfl : N * 2 = N * 2)
  have hg : W.heap.size ≤ w1.heap.size := D1.out.size
  clear own8 hgr8 HE D1 HDg hw hw2 hw3
  generalize w1.heap.size = g at *
  go_loopw [18] (fun u w9 => ∃ (j : Nat) (f : Nat → Value), j ≤ N ∧ u = .int .i64 j ∧ Hid (w9.rowIs g 24 (N * 2) f) ∧ Hid (∀ x, x < j * 2 → f x = tcell (el rv) x) ∧ Hid (Below W.heap.size W w9)) (fun u _ => N - (intOf u).toNat)
  case atStart => exact ⟨0, f0, Nat.zero_le _, rfl, R0, (fun x hx => by omega), D8⟩
  case round =>
    obtain ⟨j, f, hj, rfl, HR, HFt, HDd⟩ := hrel
    clear R0 D8
    by_cases hlt : j < N
    · have HBj := Hid.mkS (fun w ra => HBd.out j w ra hlt)
      have HTj := Hid.mkS (fun g w => HTt.out j g w hlt)
      have HX := Hid.mkS (HEl.out j hlt)
      have hj9 : j ≤ 9 := by have := HD8.out; omega
      have hcv : IntKind.u64.wrap (j : Int) = (j : Int) := by rw [IntKind.wrap_u64]; omega
      have j1 : (j : Int) < (N : Int) := by omega
      have j2 : (0 : Int) ≤ (j : Int) := by omega
      clear HBd HTt HEl
      generalize sv l (bnd ts (pl j)) (2 ^ n) = z at *
      generalize bnd ts (pl j) = bs at *
      go_wp2_with (first
        | (go_at_call 60; refine (HBj.out _ _ (HDd.out.alloc HDd.out.size _) (one_row (x := pl j) (by simp [go_sem, pl]) (by simp [go_sem, pl]))).mono ?_; rintro e w2 ⟨g2, rfl, hT2, hb2, _⟩; have K2 : Hid (w2.rowIs g 24 (N * 2) f ∧ Below W.heap.size W w2 ∧ TRow w2 (some ⟨g2, 0, none⟩) bs) := ⟨(HR.out.of_block (((Below.refl _ _).alloc (Nat.le_refl _) _).block _ HR.out.lt)).of_block (hb2.block _ (by simp; have := HR.out.lt; omega)), (HDd.out.alloc HDd.out.size _).trans (hb2.mono (by have := HDd.out.size; simp; omega)), hT2⟩; clear hT2 hb2 HR HDd)
        | (go_at_call 49; refine (HTj.out _ _ K2.out.2.1 K2.out.2.2).mono ?_; rintro e w3 ⟨rfl, hb3⟩; have K3 : Hid (w3.rowIs g 24 (N * 2) f ∧ Below W.heap.size W w3) := ⟨K2.out.1.of_block (hb3.block _ K2.out.1.lt), K2.out.2.1.trans (hb3.mono K2.out.2.1.size)⟩; clear hb3 K2; have y1 := K3.out.1.cell (i := j * 2) (by omega); have y0 := K3.out.1.frozen (j * 2); have y3 := K3.out.1.cell (i := j * 2 + 1) (by omega); have y2 := K3.out.1.frozen (j * 2 + 1)))
      refine ⟨⟨j + 1, _, hlt, by simp, (K3.out.1.set (j * 2) _).set (j * 2 + 1) _, fun x hx => ?_, (K3.out.2.setCell hg _).setCell hg _⟩, by simp [intOf]; omega⟩
      have hF := HFt.out x
      unfold tcell at hF ⊢
      by_cases h1 : x = j * 2 + 1
      · rw [if_pos h1, if_neg (by omega), show x / 2 = j by omega, HX.out]
      · rw [if_neg h1]
        by_cases h2 : x = j * 2
        · rw [if_pos h2, if_pos (by omega), show x / 2 = j by omega, HX.out]
        · rw [if_neg h2]; exact hF (by omega)
    · obtain rfl : j = N := by omega
      have HEr : Hid (ERow wr (some ⟨g, 0, none⟩) rv) := row_tab HLn.out HR.out fun x hx => HFt.out x hx
      clear HFt HR HBd HTt HEl HLn
      go_wp2
      refine bodyPost_ret (v := .tuple #[.slice (some ⟨g, 0, none⟩) j j, .int .i64 0]) (by simp [results, Try.results59, go_sem]) rfl ⟨_, rfl, HEr.out, HDd.out⟩
theorem TRowC.setG {w : World} {g n i : Nat} {T : TypeId} {f : Nat → Value} {v : Value} {a : Option Addr} {ts : List (List (Nat × Nat))} (h : TRowC w a ts) (R : w.rowIs g T n f) (hf : ∀ p, p < n → ∃ s l c, f p = .slice s l c) (hl : ∀ p, p < ts.length → 0 < (tb ts p).length) (ha : ∀ b off, a = some ⟨b, off, none⟩ → b ≠ g) : TRowC (w.setCell ⟨g, i, none⟩ v) a ts := ⟨fun p hp => by
  obtain ⟨b, off, ra, rc, e, h1, h2, h4, h3⟩ := h.cells p hp
  have hn := ha b off e
  have hn' : ¬ g = b := fun e => hn e.symm
  exact ⟨b, off, ra, rc, e, by simpa using h1, by simp [go_sem, *], h4, h3.setG (row_apart R hf h3 (hl p hp))⟩⟩
theorem slices_set {n i : Nat} {f : Nat → Value} (hf : ∀ p, p < n → ∃ s l c, f p = .slice s l c) (a : Option Addr) (m c : Nat) : ∀ p, p < n → ∃ s l c', (if p = i then Value.slice a m c else f p) = .slice s l c' := fun p hp => by
  by_cases e : p = i
  · rw [if_pos e]; exact ⟨_, _, _, rfl⟩
  · rw [if_neg e]; exact hf p hp
/-- All rounds' values. -/
def rds (l : List Stp) : List (List (Nat × Nat)) → List (Nat × Nat) → List (List (Nat × Nat))
  | _, [] => []
  | ts, x :: r => rnd l ts (2 ^ r.length) :: rds l (bnd ts x) r
def bnds (ts : List (List (Nat × Nat))) (r : List (Nat × Nat)) : List (List (Nat × Nat)) := r.foldl bnd ts
theorem rds_len (l : List Stp) : ∀ (r : List (Nat × Nat)) (ts : List (List (Nat × Nat))), (rds l ts r).length = r.length
  | [], _ => rfl
  | x :: r, ts => by simp [rds, rds_len l r]
theorem rds_at (l : List Stp) : ∀ (r : List (Nat × Nat)) (ts : List (List (Nat × Nat))) (p : Nat), p < r.length → tb (rds l ts r) p = rnd l (bnds ts (r.take p)) (2 ^ (r.length - p - 1))
  | x :: r, ts, 0, _ => by simp [rds, tb, bnds]
  | x :: r, ts, p + 1, h => by
    have := rds_at l r (bnd ts x) p (by simpa using h)
    simp only [rds, tb, List.getD_cons_succ] at this ⊢
    rw [this]
    simp only [bnds, List.take_succ_cons, List.foldl_cons, List.length_cons]
    congr 2
    omega
theorem bnds_snoc (ts : List (List (Nat × Nat))) (r : List (Nat × Nat)) (x : Nat × Nat) : bnds ts (r ++ [x]) = bnd (bnds ts r) x := by simp [bnds]
theorem bnds_len (ts : List (List (Nat × Nat))) : ∀ r : List (Nat × Nat), (bnds ts r).length = ts.length := fun r => by
  refine snoc_ind (C := fun r => (bnds ts r).length = ts.length) rfl (fun r x ih => ?_) r
  rw [bnds_snoc, bnd_len, ih]
theorem rds_one (l : List Stp) (ts : List (List (Nat × Nat))) (r : List (Nat × Nat)) (p : Nat) (h : p < r.length) : (tb (rds l ts r) p).length = dgm l + 1 := by rw [rds_at l r ts p h, rnd_len]
set_option maxHeartbeats 8000000 in
set_option maxRecDepth 100000 in
theorem sproof {k nn : Nat} {l : List Stp} {ts : List (List (Nat × Nat))} (hF : Fine k nn l ts) (hn : nn ≤ 9) (sa a ra : Option Addr) (scap cap rcap : Nat) (r : List (Nat × Nat)) (hr : r.length = nn) (hre : ltE r) (hro : ofT k r) (hl : ∀ o ∈ l, o.ok) (hm : l.length ≤ 100000) (h10 : ts.length ≤ 1000) (ht : ltT ts) (W : World) (hR : ORow W sa l) (hT : TRow W a ts) (hE : ERow W ra r) :
    Calls Try.prog 46 #[.int .i64 (k : Int), .slice sa l.length scap, .slice a ts.length cap, .slice ra nn rcap] W fun e w' => ∃ g1 g2, e = .returned (.tuple #[.agg #[.slice (some ⟨g1, 0, none⟩) nn nn, .slice (some ⟨g2, 0, none⟩) ts.length ts.length], .int .i64 0]) ∧ TRowC w' (some ⟨g1, 0, none⟩) (rds l ts r) ∧ ERow w' (some ⟨g2, 0, none⟩) (cor (bnds ts r) 0) ∧ Below W.heap.size W w' ∧ W.heap.size ≤ g1 := by
  obtain ⟨V, hV⟩ : ∃ V, V = W.alloc (Obj.cells #[.slice none 0 0, .slice none 0 0] 50) := ⟨_, rfl⟩
  have hVs : V.heap.size = W.heap.size + 1 := by rw [hV]; simp
  have HBV : Hid (Below W.heap.size W V ∧ V.cell? ⟨W.heap.size, 0, none⟩ = some (.slice none 0 0) ∧ V.cell? ⟨W.heap.size, 1, none⟩ = some (.slice none 0 0) ∧ V.frozen? ⟨W.heap.size, 0, none⟩ = false ∧ V.frozen? ⟨W.heap.size, 1, none⟩ = false) := by
    subst hV
    exact ⟨by go_grown, by simp [go_sem], by simp [go_sem], by simp [go_sem], by simp [go_sem]⟩
  have HRP : Hid (V.rowIs W.heap.size 50 2 (fun _ => .slice none 0 0)) := by
    subst hV
    exact ⟨#[.slice none 0 0, .slice none 0 0], heap_alloc_new W _, rfl, fun i hi => by
      obtain rfl | rfl : i = 0 ∨ i = 1 := by omega
      all_goals rfl⟩
  have HP : Hid ((∀ o ∈ l, o.ok) ∧ ltE r ∧ ofT k r ∧ ORow V sa l ∧ ERow V ra r ∧ r.length = nn ∧ k < 8) := ⟨hl, hre, hro, hR.below HBV.out.1, hE.below HBV.out.1, hr, hF.k8⟩
  have hmk := make_rows V nn (by omega)
  have K0 := Hid.mkS (Fl.start V nn (rds l ts r))
  have T0 : Hid (Fine k (nn - 0) l (bnds ts (r.take 0)) ∧ ltT (bnds ts (r.take 0)) ∧ TRow V a (bnds ts (r.take 0))) := ⟨hF, ht, hT.below HBV.out.1⟩
  have A0 : Hid (∀ b off, a = some ⟨b, off, none⟩ → b ≠ V.heap.size) := fun b off e => by
    obtain ⟨b', off', _, _, e', hb', _⟩ := hT.cells 0 hF.t0
    rw [e] at e'
    simp only [Option.some.injEq, Addr.mk.injEq] at e'
    omega
  have HT0 := Hid.mkS hF.t0
  have HL1 : Hid (∀ p, p < nn → (tb (rds l ts r) p).length = dgm l + 1) := fun p hp => rds_one l ts r p (by omega)
  have HLn : Hid (∀ q, (bnds ts q).length = ts.length) := bnds_len ts
  rw [hV] at hmk
  have hVs' : (W.alloc (Obj.cells #[.slice none 0 0, .slice none 0 0] 50)).heap.size = W.heap.size + 1 := by simp
  rw [hVs'] at hmk
  clear hl hre hro hR hE hr hF hT ht hVs'
  go_enter Try.func46, Try.ntmps46
  go_wp2_with fail
  rw [← hV, ← hVs]
  have hsz : W.heap.size < V.heap.size := by omega
  have HV := Hid.mkS hV
  have HVs := Hid.mkS hVs
  clear hmk hV hVs
  have T1 : Hid (Fine k (nn - 0) l (bnds ts (r.take 0)) ∧ ltT (bnds ts (r.take 0)) ∧ TRow (V.alloc (.cells (madeCells #[.slice none 0 0] nn) 26)) a (bnds ts (r.take 0))) := ⟨T0.out.1, T0.out.2.1, T0.out.2.2.below ((Below.refl _ _).alloc (Nat.le_refl _) _)⟩
  clear T0
  generalize V.alloc (.cells (madeCells #[.slice none 0 0] nn) 26) = w0 at *
  obtain ⟨rd, hrd⟩ : ∃ rd, rd = rds l ts r := ⟨_, rfl⟩
  rw [← hrd] at K0 HL1
  have HRD := Hid.mkS hrd
  clear hrd
  obtain ⟨tn, htn⟩ : ∃ tn, tn = ts.length := ⟨_, rfl⟩
  rw [← htn] at HLn h10 ⊢
  have HTn := Hid.mkS htn
  clear htn
  obtain ⟨dd, hdd⟩ : ∃ dd, dd = dgm l + 1 := ⟨_, rfl⟩
  rw [← hdd] at HL1
  have HDD := Hid.mkS hdd
  clear hdd
  go_loopw [11, 20] (fun v u wr => ∃ (j : Nat) (f : Nat → Value) (ca : Option Addr) (cc : Nat), j ≤ nn ∧ u = .int .i64 j ∧ v = .slice ca tn cc ∧ Hid (Fine k (nn - j) l (bnds ts (r.take j)) ∧ ltT (bnds ts (r.take j)) ∧ TRow wr ca (bnds ts (r.take j))) ∧ Hid (Fl V wr nn f j rd) ∧ Hid (∀ p, p < j → ∃ pa pc, f p = .slice pa dd pc ∧ dd ≤ pc) ∧ Hid (∀ b off, ca = some ⟨b, off, none⟩ → b ≠ V.heap.size)) (fun _ u _ => nn - (intOf u).toNat)
  case atStart => exact ⟨0, _, a, cap, Nat.zero_le _, rfl, rfl, T1, K0, (fun p hp => by omega), A0⟩
  case round =>
    obtain ⟨j, f, ca, cc, hj, rfl, rfl, HT, K, HC, HA⟩ := hrel
    clear K0 T1 A0
    by_cases hlt : j < nn
    · obtain ⟨q, hq⟩ : ∃ q, nn - j = q + 1 := ⟨nn - j - 1, by omega⟩
      have hjr : j < r.length := by rw [HP.out.2.2.2.2.2.1]; exact hlt
      obtain ⟨b, off, rfl, hb, c1, c0⟩ := HP.out.2.2.2.2.1.cells j hjr
      have HX : Hid (lt2 (r.getD j (0, 0)) ∧ ofE k (r.getD j (0, 0)) ∧ bnds ts (r.take (j + 1)) = bnd (bnds ts (r.take j)) (r.getD j (0, 0)) ∧ nn - (j + 1) = q ∧ q ≤ 8) := ⟨HP.out.2.1.at j, HP.out.2.2.1.el HP.out.2.2.2.2.2.2 j, by rw [take_sn r j hjr, bnds_snoc], by omega, by omega⟩
      have HRj : Hid (tb rd j = rnd l (bnds ts (r.take j)) (2 ^ q)) := by
        show _ = _
        rw [HRD.out, rds_at l r ts j hjr, HP.out.2.2.2.2.2.1, show nn - j - 1 = q by omega]
      have HRd : Hid (∀ w, Below V.heap.size V w → TRow w ca (bnds ts (r.take j)) → Calls Try.prog 59 #[.int .i64 (k : Int), .slice sa l.length scap, .slice ca tn cc] w fun e w' => ∃ g, e = .returned (.tuple #[.slice (some ⟨g, 0, none⟩) dd dd, .int .i64 0]) ∧ ERow w' (some ⟨g, 0, none⟩) (tb rd j) ∧ Below w.heap.size w w') := fun w hb ht => by
        have hFq : Fine k (q + 1) l (bnds ts (r.take j)) := by rw [← hq]; exact HT.out.1
        have := sround hFq HX.out.2.2.2.2 sa ca scap cc HP.out.1 hm (by rw [HLn.out]; exact h10) HT.out.2.1 w (HP.out.2.2.2.1.below hb) ht
        rw [HLn.out, ← HRj.out, ← HDD.out] at this
        exact this
      have HBd : Hid (∀ w b2, Below V.heap.size V w → TRow w ca (bnds ts (r.take j)) → ERow w (some ⟨b2, 0, none⟩) [r.getD j (0, 0)] → Calls Try.prog 60 #[.int .i64 (k : Int), .slice ca tn cc, .slice (some ⟨b2, 0, none⟩) 1 1] w fun e w' => ∃ g, e = .returned (.tuple #[.slice (some ⟨g, 0, none⟩) tn tn, .int .i64 0]) ∧ TRow w' (some ⟨g, 0, none⟩) (bnds ts (r.take (j + 1))) ∧ Below w.heap.size w w' ∧ w.heap.size ≤ g) := fun w b2 hb ht he => by
        have hFq : Fine k (q + 1) l (bnds ts (r.take j)) := by rw [← hq]; exact HT.out.1
        have := sbound k hFq.k8 ca (some ⟨b2, 0, none⟩) cc 1 q (bnds ts (r.take j)) (r.getD j (0, 0)) (by rw [HLn.out]; exact h10) HX.out.2.2.2.2 (by rw [Nat.add_comm]; exact hFq.len) HT.out.2.1 hFq.oft HX.out.1 HX.out.2.1 w ht he
        rw [HLn.out, ← HX.out.2.2.1] at this
        exact this
      have HTN : Hid (Fine k (nn - (j + 1)) l (bnds ts (r.take (j + 1))) ∧ ltT (bnds ts (r.take (j + 1)))) := by
        have hFq : Fine k (q + 1) l (bnds ts (r.take j)) := by rw [← hq]; exact HT.out.1
        refine ⟨?_, ?_⟩
        · rw [HX.out.2.2.2.1, HX.out.2.2.1]; exact hFq.bnd HX.out.2.1
        · rw [HX.out.2.2.1]; exact ltT_bnd HT.out.2.1 _
      have HLj : Hid (∀ p, p < (bnds ts (r.take j)).length → 0 < (tb (bnds ts (r.take j)) p).length) := fun p hp => by rw [HT.out.1.len.at hp]; exact Nat.two_pow_pos _
      have hd0 : Hid (0 < dd) := by show 0 < dd; rw [HDD.out]; omega
      have d1 := keepc K.out.d c1
      have d0 := keepc K.out.d c0
      have HCC : Hid (V.cell? ⟨b, off + j * 2, none⟩ = some (.int .u64 ((r.getD j (0, 0)).1 : Int)) ∧ V.cell? ⟨b, off + j * 2 + 1, none⟩ = some (.int .u64 ((r.getD j (0, 0)).2 : Int))) := ⟨c1, c0⟩
      have HK := Hid.mkS HT.out.2.2
      have j1 : (j : Int) < (nn : Int) := by omega
      have j2 : (0 : Int) ≤ (j : Int) := by omega
      have nb1 : ¬ b = V.heap.size := by omega
      have nb2 : ¬ V.heap.size = b := by omega
      clear c1 c0 HT hq
      generalize r.getD j (0, 0) = x at *
      go_wp2_with (first
        | (go_at_call 59; refine (HRd.out _ K.out.d HK.out).mono ?_; rintro e w1 ⟨g1, rfl, hE1, hb1⟩; have K1 : Hid (Fl V w1 nn f j rd ∧ ERow w1 (some ⟨g1, 0, none⟩) (tb rd j) ∧ TRow w1 ca (bnds ts (r.take j))) := ⟨K.out.below hb1, hE1, HK.out.below hb1⟩; clear hb1 hE1 K HK d1 d0; have s0 := K1.out.1.r.cell hlt; have s1 := K1.out.1.r.frozen j; have K2 : Hid (Fl V (w1.setCell ⟨V.heap.size, j, none⟩ (.slice (some ⟨g1, 0, none⟩) dd dd)) nn (fun p => if p = j then .slice (some ⟨g1, 0, none⟩) dd dd else f p) (j + 1) rd) := K1.out.1.put hlt (fun p hp => by rw [HL1.out p hp]; exact hd0.out) (some ⟨g1, 0, none⟩) dd dd (HL1.out j hlt) K1.out.2.1; have K3 : Hid (TRow (w1.setCell ⟨V.heap.size, j, none⟩ (.slice (some ⟨g1, 0, none⟩) dd dd)) ca (bnds ts (r.take j))) := K1.out.2.2.setG K1.out.1.r K1.out.1.z HLj.out HA.out; have d1 := keepc K1.out.1.d HCC.out.1; have d0 := keepc K1.out.1.d HCC.out.2; clear K1)
        | (go_at_call 60; refine (HBd.out _ _ (K2.out.d.alloc K2.out.d.size _) (K3.out.below ((Below.refl _ _).alloc (Nat.le_refl _) _)) (one_row (by simp [go_sem]) (by simp [go_sem]))).mono ?_; rintro e w4 ⟨g4, rfl, hT4, hb4, hg4⟩; have K4 : Hid (Fl V w4 nn (fun p => if p = j then .slice (some ⟨g1, 0, none⟩) dd dd else f p) (j + 1) rd ∧ TRow w4 (some ⟨g4, 0, none⟩) (bnds ts (r.take (j + 1))) ∧ V.heap.size < g4) := ⟨(K2.out.below ((Below.refl _ _).alloc (Nat.le_refl _) _)).below hb4, hT4, by have h9 := K2.out.r.lt; simp at h9 hg4; omega⟩; clear hT4 hb4 hg4 K2 K3 d1 d0))
      refine ⟨⟨j + 1, _, some ⟨g4, 0, none⟩, tn, hlt, by simp, rfl, ⟨HTN.out.1, HTN.out.2, K4.out.2.1⟩, K4.out.1, (fun p hp => ?_), (fun b off e => ?_)⟩, by simp [intOf]; omega⟩
      · by_cases e : p = j
        · exact ⟨_, dd, by rw [if_pos e], Nat.le_refl _⟩
        · obtain ⟨pa, pc, e1, e2⟩ := HC.out p (by omega)
          exact ⟨pa, pc, by rw [if_neg e]; exact e1, e2⟩
      · simp only [Option.some.injEq, Addr.mk.injEq] at e
        have := K4.out.2.2
        omega
    · obtain rfl : j = nn := by omega
      have hbn : bnds ts (r.take j) = bnds ts r := by rw [List.take_of_length_le (by rw [HP.out.2.2.2.2.2.1]; exact Nat.le_refl _)]
      have HCo : Hid (∀ w, Below wr.heap.size wr w → Calls Try.prog 77 #[.slice ca tn cc, .int .i64 0] w fun e w' => ∃ g, e = .returned (.slice (some ⟨g, 0, none⟩) tn tn) ∧ ERow w' (some ⟨g, 0, none⟩) (cor (bnds ts r) 0) ∧ Below w.heap.size w w') := fun w hb => by
        have hFz := HT.out.1
        have hTz := HT.out.2.2
        rw [hbn] at hFz hTz
        have := scorner ca cc 1 0 (bnds ts r) (by rw [HLn.out]; exact h10) (by have := hFz.len; rw [Nat.sub_self] at this; exact this) (by decide) w (hTz.below hb)
        rw [HLn.out] at this
        exact this
      have HFin : Hid (TRowC wr (some ⟨V.heap.size, 0, none⟩) rd ∧ Below V.heap.size V wr) := ⟨⟨fun i hi => by
        have hi' : i < j := by
          rw [HRD.out, rds_len, HP.out.2.2.2.2.2.1] at hi; exact hi
        obtain ⟨pa, pc, e, hE⟩ := K.out.o i hi'
        obtain ⟨pa', pc', e', hc'⟩ := HC.out i hi'
        rw [e] at e'
        injection e' with e1 e2 e3
        subst e1 e3
        refine ⟨V.heap.size, 0, pa, pc, rfl, K.out.r.lt, ?_, by rw [HL1.out i hi']; exact hc', hE⟩
        rw [Nat.zero_add, K.out.r.cell hi', e]⟩, K.out.d⟩
      have HV0 := Hid.mkS HBV.out
      clear HT K HC HA hbn
      go_wp2_with (go_at_call 77; refine (HCo.out _ (Below.refl _ _)).mono ?_; rintro e w5 ⟨g5, rfl, hE5, hb5⟩; have K5 : Hid (TRowC w5 (some ⟨V.heap.size, 0, none⟩) rd ∧ Below V.heap.size V w5 ∧ ERow w5 (some ⟨g5, 0, none⟩) (cor (bnds ts r) 0)) := ⟨HFin.out.1.below hb5, HFin.out.2.trans (hb5.mono HFin.out.2.size), hE5⟩; clear hE5 hb5 HFin; have s0 := keepc K5.out.2.1 HV0.out.2.1; have s1 := keepc K5.out.2.1 HV0.out.2.2.1; have s2 := keepf K5.out.2.1 HV0.out.2.1 HV0.out.2.2.2.1; have s3 := keepf K5.out.2.1 HV0.out.2.2.1 HV0.out.2.2.2.2; have n1 : ¬ W.heap.size = V.heap.size := (by have := HVs.out; omega))
      have hl1 : ∀ p, p < rd.length → 0 < (tb rd p).length := fun p hp => by
        rw [HRD.out, rds_len, HP.out.2.2.2.2.2.1] at hp
        rw [HL1.out p hp, HDD.out]; omega
      have hl2 : 0 < (cor (bnds ts r) 0).length := by rw [cor_len, HLn.out, HTn.out]; exact HT0.out
      have R5 : w5.rowIs W.heap.size 50 2 (fun _ => .slice none 0 0) := HRP.out.of_block (K5.out.2.1.block _ HRP.out.lt)
      have z5 : ∀ p, p < 2 → ∃ s l c, (fun _ : Nat => Value.slice none 0 0) p = .slice s l c := fun p hp => ⟨_, _, _, rfl⟩
      have hne : ∀ b off, (some ⟨V.heap.size, 0, none⟩ : Option Addr) = some ⟨b, off, none⟩ → b ≠ W.heap.size := fun b off e => by
        simp only [Option.some.injEq, Addr.mk.injEq] at e
        omega
      refine bodyPost_ret (v := .tuple #[.agg #[.slice (some ⟨V.heap.size, 0, none⟩) j j, .slice (some ⟨g5, 0, none⟩) tn tn], .int .i64 0]) (by simp [results, Try.results46, go_sem, *]) rfl ⟨V.heap.size, g5, by rw [HTn.out], ?_, ?_, ?_, by omega⟩
      · rw [← HRD.out]
        exact (K5.out.1.setG R5 z5 hl1 hne).setG (R5.set 0 _) (slices_set z5 _ _ _) hl1 hne
      · have h6 := K5.out.2.2.setG (i := 0) (v := .slice (some ⟨V.heap.size, 0, none⟩) j j) (row_apart R5 z5 K5.out.2.2 hl2)
        exact h6.setG (row_apart (R5.set 0 _) (slices_set z5 _ _ _) h6 hl2)
      · exact ((HBV.out.1.trans (K5.out.2.1.mono (by omega))).setCell (Nat.le_refl _) _).setCell (Nat.le_refl _) _
end Go.Proofs.Ytfhojakhoobnhaa
