/- The walk of MerkleClimbs over the seat's translation: the document leads somewhere. -/
import Derived.Test.YthmjbdmnlkbllaaGreatRmK
namespace Go.Proofs.YthmjbdmnlkbllaaGreat
open Go.RowKit
set_option maxHeartbeats 12000000 in
set_option maxRecDepth 100000 in
theorem mc_zero (a : Option Addr) (n cap : Nat) (h i : Int) (leaf s : ByteArray) (W : World) (P : Nat → ByteArray) (r : ByteArray) (m : Nat) (T : Nat → ByteArray) (E : Nat) (r2 : ByteArray) (m2 : Nat) (hm : m ≤ 1000) (hs : leaf.size ≤ 100) (ht : s.size ≤ 100) (hX : Txs W a n P) (bl : Bool) (hl : (r2.toList == leaf.toList) = bl)
    (HC : Hid (∀ g, ClX g a n cap h i leaf P r m T E)) (HR : Hid (∀ gB cB gT cT gs cs, RlX gB cB gT cT gs cs a n cap h i leaf P r m T E)) (HR2 : Hid (∀ gB cB gT cT gs cs w, RTab w gB gT gs cs → Txs w a n P → Calls Tryz.prog 9 #[.agg #[.slice (some ⟨gB, 0, none⟩) 256 cB, .slice (some ⟨gT, 0, none⟩) 8 cT], .int .i64 h, .int .i64 i, .string (lfv s), .slice a n cap] w fun e w' => ∃ a5 c5, e = .returned (.agg #[.string r2, .slice a5 m2 c5, .int .i64 0]) ∧ Below w.heap.size w w'))
    (HKl : Hid (∀ g w, Tab w g → Txs w a n P → Calls Tryz.prog 12 #[.pointer (some ⟨g, 0, none⟩), .string leaf, .int .i64 h, .int .i64 i, .string s, .slice a n cap] w fun e w' => e = .returned (.bool bl) ∧ Below w.heap.size w w'))
    (HKr : Hid (∀ g w, Tab w g → Txs w a n P → Calls Tryz.prog 12 #[.pointer (some ⟨g, 0, none⟩), .string r2, .int .i64 h, .int .i64 i, .string s, .slice a n cap] w fun e w' => e = .returned (.bool true) ∧ Below w.heap.size w w'))
    (HF : Hid (∀ w, Below W.heap.size W w → Calls Tryz.prog 4 #[.agg #[.int .i64 h, .int .i64 i, .slice a n cap]] w fun e w' => e = .returned (.bool true) ∧ Below w.heap.size w w')) :
    Calls Tryz.prog 3 #[.agg #[.int .i64 h, .int .i64 i, .slice a n cap], .string leaf, .string s] W fun e w' => e = .returned (.bool true) ∧ Below W.heap.size W w' := by
  have D : Hid (Below W.heap.size W (W.alloc (.cells #[.int .i64 h, .int .i64 i, .slice a n cap] 24))) := below_laid _ _
  have c0' : (W.alloc (.cells #[.int .i64 h, .int .i64 i, .slice a n cap] 24)).cell? ⟨W.heap.size, 0, none⟩ = some (.int .i64 h) := by simp [go_sem]
  have c1' : (W.alloc (.cells #[.int .i64 h, .int .i64 i, .slice a n cap] 24)).cell? ⟨W.heap.size, 1, none⟩ = some (.int .i64 i) := by simp [go_sem]
  have c2' : (W.alloc (.cells #[.int .i64 h, .int .i64 i, .slice a n cap] 24)).cell? ⟨W.heap.size, 2, none⟩ = some (.slice a n cap) := by simp [go_sem]
  have h1 : ¬ (100 : Int) < (leaf.size : Int) := by omega
  have h2 : ¬ (100 : Int) < (s.size : Int) := by omega
  have HX : Hid (Txs W a n P) := hX
  have HLs : Hid (∀ gB cB gT cT gs cs w, RTab w gB gT gs cs → Calls Tryz.prog 10 #[.agg #[.slice (some ⟨gB, 0, none⟩) 256 cB, .slice (some ⟨gT, 0, none⟩) 8 cT], .string s] w fun e w' => e = .returned (.string (lfv s)) ∧ Below w.heap.size w w') := fun gB cB gT cT gs cs w t => rleaf_ok gB cB gT cT gs cs s (by omega) w t
  have HTx : Hid (∀ a5 a6 c5 c6 w, Txs w a5 m T → Txs w a6 m T → Calls Tryz.prog 11 #[.slice a5 m c5, .slice a6 m c6] w fun e w' => e = .returned (.bool true) ∧ Below w.heap.size w w') := fun a5 a6 c5 c6 w x y => texts_same a5 a6 m c5 c6 T (by omega) w x y
  have HNl : Hid (∀ v, Same 8 #[.pointer none, .int .i64 h, .int .i64 i, .string leaf, v] (.tuple #[.string (ByteArray.mk #[]), .slice none 0 0, .int .i64 1])) := fun v => climb_nil h i _ v
  clear hX
  generalize lfv s = la at *
  go_enter Tryz.func3, Tryz.ntmps3
  go_wp2_with (first | (go_at_call 4; refine (HF.out _ D.out).mono ?_; rintro e w1 ⟨rfl, hb1⟩; have D1 : Hid (Below W.heap.size W w1) := D.out.trans (hb1.mono D.out.size); have c0 := keepc hb1 c0'; have c1 := keepc hb1 c1'; have c2 := keepc hb1 c2'; clear hb1) | (go_at_call 5; refine (awake12.go _).mono ?_; rintro e w2 ⟨rfl, hb2⟩; have D2 : Hid (Below W.heap.size W w2) := D1.out.trans (hb2.mono D1.out.size); have f0 := keepc hb2 c0; have f1 := keepc hb2 c1; have f2 := keepc hb2 c2; clear hb2) | (go_at_call 6; refine (make_any _).mono ?_; rintro e w3 ⟨g, rfl, hg, ht3, hb3⟩; have T3 : Hid (Tab w3 g) := ht3.below (Below.refl _ _); have D3 : Hid (Below W.heap.size W w3) := D2.out.trans (hb3.mono D2.out.size); have g0 := keepc hb3 f0; have g1 := keepc hb3 f1; have g2 := keepc hb3 f2; clear ht3 hb3) | (go_at_call 7; refine (rmake_any _).mono ?_; rintro e w4 ⟨gB, cB, gT, cT, gs, cs, rfl, hr, hb4⟩; have K4 : Hid (Lk W (w4.alloc (Obj.cells #[.slice (some ⟨gB, 0, none⟩) 256 cB, .slice (some ⟨gT, 0, none⟩) 8 cT] 32)) g gB cB gT cT gs cs a n P cap h i w4.heap.size) := (by have D4 := D3.out.trans (hb4.mono D3.out.size); have bl := below_laid w4 (Obj.cells #[.slice (some ⟨gB, 0, none⟩) 256 cB, .slice (some ⟨gT, 0, none⟩) 8 cT] 32); exact ⟨(T3.out.below hb4).below bl, hr.below bl, (HX.out.below D4).below bl, D4.trans (bl.mono D4.size), keepc bl (keepc hb4 g0), keepc bl (keepc hb4 g1), keepc bl (keepc hb4 g2), by simp [go_sem], by simp [go_sem]⟩); have k0 := K4.out.c0; have k1 := K4.out.c1; have k2 := K4.out.c2; have k3 := K4.out.r0; have k4 := K4.out.r1; clear hr hb4) | (go_at_call 8; refine (HC.out _ _ K4.out.t K4.out.x).mono ?_; rintro e w5 ⟨a5, c5, rfl, hx5, hb5⟩; have K5 : Hid (Lk W w5 g gB cB gT cT gs cs a n P cap h i w4.heap.size) := K4.out.below hb5; have HX5 : Hid (Txs w5 a5 m T) := hx5; have l0 := K5.out.c0; have l1 := K5.out.c1; have l2 := K5.out.c2; have l3 := K5.out.r0; have l4 := K5.out.r1; clear hb5 hx5) | (go_at_call 9; refine (HR.out _ _ _ _ _ _ _ K5.out.rt K5.out.x).mono ?_; rintro e w6 ⟨a6, c6, rfl, hx6, hb6⟩; have K6 : Hid (Lk W (w6.alloc (Obj.cells #[.string r, .slice a6 m c6, .int .i64 (E : Int)] 38)) g gB cB gT cT gs cs a n P cap h i w4.heap.size) := (K5.out.below hb6).below (below_laid _ _); have HX6 : Hid (Txs (w6.alloc (Obj.cells #[.string r, .slice a6 m c6, .int .i64 (E : Int)] 38)) a5 m T ∧ Txs (w6.alloc (Obj.cells #[.string r, .slice a6 m c6, .int .i64 (E : Int)] 38)) a6 m T) := ⟨(HX5.out.below hb6).below (below_laid _ _), Txs.below hx6 (below_laid _ _)⟩; have y0 : (w6.alloc (Obj.cells #[.string r, .slice a6 m c6, .int .i64 (E : Int)] 38)).cell? ⟨w6.heap.size, 0, none⟩ = some (.string r) := (by simp [go_sem]); have y1 : (w6.alloc (Obj.cells #[.string r, .slice a6 m c6, .int .i64 (E : Int)] 38)).cell? ⟨w6.heap.size, 1, none⟩ = some (.slice a6 m c6) := (by simp [go_sem]); have y2 : (w6.alloc (Obj.cells #[.string r, .slice a6 m c6, .int .i64 (E : Int)] 38)).cell? ⟨w6.heap.size, 2, none⟩ = some (.int .i64 (E : Int)) := (by simp [go_sem]); clear hb6 hx6))
  clear D D1 D2 D3 T3 c0 c1 c2 c0' c1' c2' f0 f1 f2 g0 g1 g2 k0 k1 k2 k3 k4 l0 l1 l2 l3 l4 K4 K5 HX5
  generalize w6.alloc (Obj.cells #[.string r, .slice a6 m c6, .int .i64 (E : Int)] 38) = w7 at K6 HX6 y0 y1 y2 ⊢
  generalize w6.heap.size = c at y0 y1 y2 ⊢
  generalize w4.heap.size = b at K6 ⊢
  have YY : Hid (w7.drew.cell? ⟨c, 0, none⟩ = some (.string r) ∧ w7.drew.cell? ⟨c, 1, none⟩ = some (.slice a6 m c6) ∧ w7.drew.cell? ⟨c, 2, none⟩ = some (.int .i64 (E : Int)) ∧ Txs w7.drew a5 m T ∧ Txs w7.drew a6 m T) := ⟨y0, y1, y2, HX6.out.1.drew, HX6.out.2.drew⟩
  have KD : Hid (Lk W w7.drew g gB cB gT cT gs cs a n P cap h i b) := K6.out.drew
  have F0 : _ ∧ _ ∧ _ ∧ _ ∧ _ := ⟨K6.out.c0, K6.out.c1, K6.out.c2, K6.out.r0, K6.out.r1⟩
  have hq : Hid (∃ q, q = W.heap.size) := ⟨_, rfl⟩
  clear y0 y1 y2 HX6 K6 hq
  generalize hq : W.heap.size = q at F0 ⊢
  refine wp_region_noPanic ?_
  refine wp_region_peel (S := fun w => w.cell? ⟨q, 0, none⟩ = some (.int .i64 h) ∧ w.cell? ⟨q, 1, none⟩ = some (.int .i64 i) ∧ w.cell? ⟨q, 2, none⟩ = some (.slice a n cap) ∧ w.cell? ⟨b, 0, none⟩ = some (.slice (some ⟨gB, 0, none⟩) 256 cB) ∧ w.cell? ⟨b, 1, none⟩ = some (.slice (some ⟨gT, 0, none⟩) 8 cT)) 12 (by kernel_rfl) rfl (by kernel_rfl) F0 (fun hHeld => ?_)
  refine wpAnyH_take (i := 0) (oi := _) (v := ?_) rfl (by kernel_rfl) (by kernel_rfl) (by kernel_rfl) (fun _ _ _ h => h) (Or.inl ⟨by rfl, ?_⟩) (by assumption) ?_
  rotate_left
  · ((intro w hSw; (try dsimp only at hSw); (try obtain ⟨hS0, hS1, hS2, hS3, hS4⟩ := hSw); go_simp) <;> (try with_reducible rfl))
  try simp only [Act.put]
  refine wpAnyH_take (i := 1) (oi := _) (v := ?_) rfl (by kernel_rfl) (by kernel_rfl) (by kernel_rfl) (fun _ _ _ h => h) (Or.inl ⟨by rfl, ?_⟩) (by assumption) ?_
  rotate_left
  · ((intro w hSw; (try dsimp only at hSw); (try obtain ⟨hS0, hS1, hS2, hS3, hS4⟩ := hSw); go_simp) <;> (try with_reducible rfl))
  try simp only [Act.put]
  refine wpAnyH_take (i := 2) (oi := _) (v := ?_) rfl (by kernel_rfl) (by kernel_rfl) (by kernel_rfl) (fun _ _ _ h => h) (Or.inl ⟨by rfl, ?_⟩) (by assumption) ?_
  rotate_left
  · ((intro w hSw; (try dsimp only at hSw); (try obtain ⟨hS0, hS1, hS2, hS3, hS4⟩ := hSw); go_simp) <;> (try with_reducible rfl))
  try simp only [Act.put]
  refine wpAnyH_take (i := 3) (oi := _) (v := ?_) rfl (by kernel_rfl) (by kernel_rfl) (by kernel_rfl) (fun _ _ _ h => h) (Or.inl ⟨by rfl, ?_⟩) (by assumption) ?_
  rotate_left
  · ((intro w hSw; (try dsimp only at hSw); (try obtain ⟨hS0, hS1, hS2, hS3, hS4⟩ := hSw); go_simp) <;> (try with_reducible rfl))
  try simp only [Act.put]
  refine wpAnyH_take (i := 4) (oi := _) (v := ?_) rfl (by kernel_rfl) (by kernel_rfl) (by kernel_rfl) (fun _ _ _ h => h) (Or.inl ⟨by rfl, ?_⟩) (by assumption) ?_
  rotate_left
  · ((intro w hSw; (try dsimp only at hSw); (try obtain ⟨hS0, hS1, hS2, hS3, hS4⟩ := hSw); go_simp) <;> (try with_reducible rfl))
  try simp only [Act.put]
  refine wpAnyH_take (i := 5) (oi := _) (v := ?_) rfl (by kernel_rfl) (by kernel_rfl) (by kernel_rfl) (fun _ _ _ h => h) (Or.inl ⟨by rfl, ?_⟩) (by assumption) ?_
  rotate_left
  · ((intro w hSw; (try dsimp only at hSw); (try obtain ⟨hS0, hS1, hS2, hS3, hS4⟩ := hSw); go_simp) <;> (try with_reducible rfl))
  try simp only [Act.put]
  refine wpAnyH_take (i := 6) (oi := _) (v := ?_) rfl (by kernel_rfl) (by kernel_rfl) (by kernel_rfl) (fun _ _ _ h => h) (Or.inl ⟨by rfl, ?_⟩) (by assumption) ?_
  rotate_left
  · ((intro w hSw; (try dsimp only at hSw); (try obtain ⟨hS0, hS1, hS2, hS3, hS4⟩ := hSw); go_simp) <;> (try with_reducible rfl))
  try simp only [Act.put]
  refine wpAnyH_take (i := 8) (oi := _) (v := ?_) rfl (by kernel_rfl) (by kernel_rfl) (by kernel_rfl) (fun _ _ _ h => h) (Or.inl ⟨by rfl, ?_⟩) (by assumption) ?_
  rotate_left
  · ((intro w hSw; (try dsimp only at hSw); (try obtain ⟨hS0, hS1, hS2, hS3, hS4⟩ := hSw); go_simp) <;> (try with_reducible rfl))
  try simp only [Act.put]
  refine wpAnyH_take (i := 9) (oi := _) (v := ?_) rfl (by kernel_rfl) (by kernel_rfl) (by kernel_rfl) (fun _ _ _ h => h) (Or.inl ⟨by rfl, ?_⟩) (by assumption) ?_
  rotate_left
  · ((intro w hSw; (try dsimp only at hSw); (try obtain ⟨hS0, hS1, hS2, hS3, hS4⟩ := hSw); go_simp) <;> (try with_reducible rfl))
  try simp only [Act.put]
  refine wpAnyH_ready (rs := [7, 11]) (by kernel_rfl) (by simp) ?_
  refine AllReadyH.cons (o := _) rfl (fun KK hKK => ?_) (AllReadyH.cons (o := _) rfl (fun KK hKK => ?_) AllReadyH.nil)
  · go_simp
    (go_at_call 10; refine (HLs.out _ _ _ _ _ _ _ KD.out.rt).mono ?_; rintro e wA ⟨rfl, hbA⟩)
    have KA : Hid (Lk W wA g gB cB gT cT gs cs a n P cap h i b) := KD.out.below hbA
    have FA : wA.cell? ⟨q, 0, none⟩ = some (.int .i64 h) ∧ wA.cell? ⟨q, 1, none⟩ = some (.int .i64 i) ∧ wA.cell? ⟨q, 2, none⟩ = some (.slice a n cap) ∧ wA.cell? ⟨b, 0, none⟩ = some (.slice (some ⟨gB, 0, none⟩) 256 cB) ∧ wA.cell? ⟨b, 1, none⟩ = some (.slice (some ⟨gT, 0, none⟩) 8 cT) := by rw [← hq]; exact ⟨KA.out.c0, KA.out.c1, KA.out.c2, KA.out.r0, KA.out.r1⟩
    refine hKK.out _ _ FA (fun hHeld => ?_)
    clear hKK KK
    try simp only [Act.put]
    refine wpAnyH_ready (rs := [10, 11]) (by kernel_rfl) (by simp) ?_
    refine AllReadyH.cons (o := _) rfl (fun KK hKK => ?_) (AllReadyH.cons (o := _) rfl (fun KK hKK => ?_) AllReadyH.nil)
    · go_simp
      (go_at_call 9; refine (HR2.out _ _ _ _ _ _ _ KA.out.rt KA.out.x).mono ?_; rintro e wB ⟨a8, c8, rfl, hbB⟩)
      have KB : Hid (Lk W wB g gB cB gT cT gs cs a n P cap h i b) := KA.out.below hbB
      have BB : Below w7.drew.heap.size w7.drew wB := hbA.trans (hbB.mono hbA.size)
      have FB : wB.cell? ⟨q, 0, none⟩ = some (.int .i64 h) ∧ wB.cell? ⟨q, 1, none⟩ = some (.int .i64 i) ∧ wB.cell? ⟨q, 2, none⟩ = some (.slice a n cap) ∧ wB.cell? ⟨b, 0, none⟩ = some (.slice (some ⟨gB, 0, none⟩) 256 cB) ∧ wB.cell? ⟨b, 1, none⟩ = some (.slice (some ⟨gT, 0, none⟩) 8 cT) := by rw [← hq]; exact ⟨KB.out.c0, KB.out.c1, KB.out.c2, KB.out.r0, KB.out.r1⟩
      refine hKK.out _ _ FB (fun hHeld => ?_)
      clear hKK KK
      try simp only [Act.put]
      refine wpAnyH_ready (rs := [11]) (by kernel_rfl) (by simp) ?_
      refine AllReadyH.cons (o := _) rfl (fun KK hKK => ?_) AllReadyH.nil
      go_simp
      have FC : (wB.alloc (Obj.cells #[.string (ByteArray.mk #[]), .slice none 0 0, .int .i64 0] 38)).cell? ⟨q, 0, none⟩ = some (.int .i64 h) ∧ (wB.alloc (Obj.cells #[.string (ByteArray.mk #[]), .slice none 0 0, .int .i64 0] 38)).cell? ⟨q, 1, none⟩ = some (.int .i64 i) ∧ (wB.alloc (Obj.cells #[.string (ByteArray.mk #[]), .slice none 0 0, .int .i64 0] 38)).cell? ⟨q, 2, none⟩ = some (.slice a n cap) ∧ (wB.alloc (Obj.cells #[.string (ByteArray.mk #[]), .slice none 0 0, .int .i64 0] 38)).cell? ⟨b, 0, none⟩ = some (.slice (some ⟨gB, 0, none⟩) 256 cB) ∧ (wB.alloc (Obj.cells #[.string (ByteArray.mk #[]), .slice none 0 0, .int .i64 0] 38)).cell? ⟨b, 1, none⟩ = some (.slice (some ⟨gT, 0, none⟩) 8 cT) := by have KC := KB.out.below (below_laid wB (Obj.cells #[.string (ByteArray.mk #[]), .slice none 0 0, .int .i64 0] 38)); rw [← hq]; exact ⟨KC.c0, KC.c1, KC.c2, KC.r0, KC.r1⟩
      refine hKK.out _ _ FC (fun hHeld => ?_)
      clear hKK KK
      try simp only [Act.put]
      refine wpAnyH_done (by kernel_rfl) ?_ _
      refine peel_last rfl (fun KK hKK => ?_)
      go_simp
      refine hKK _ _ ?_
      refine NoPanic.normal ?_
      have BZ : Below w7.drew.heap.size w7.drew (wB.alloc (Obj.cells #[.string r2, .slice a8 m2 c8, .int .i64 0] 38)) := BB.alloc BB.size _
      have z0 : (wB.alloc (Obj.cells #[.string r2, .slice a8 m2 c8, .int .i64 0] 38)).cell? ⟨wB.heap.size, 0, none⟩ = some (.string r2) := by simp [go_sem]
      have z2 : (wB.alloc (Obj.cells #[.string r2, .slice a8 m2 c8, .int .i64 0] 38)).cell? ⟨wB.heap.size, 2, none⟩ = some (.int .i64 0) := by simp [go_sem]
      generalize wB.alloc (Obj.cells #[.string r2, .slice a8 m2 c8, .int .i64 0] 38) = wz at BZ z0 z2 ⊢
      generalize wB.heap.size = d at z0 z2 ⊢
      clear hKK KK hHeld
      have KZ : Hid (Lk W wz g gB cB gT cT gs cs a n P cap h i b) := KD.out.below BZ
      have YZ : Hid (Txs wz a5 m T ∧ Txs wz a6 m T) := ⟨YY.out.2.2.2.1.below BZ, YY.out.2.2.2.2.below BZ⟩
      have y0 := keepc BZ YY.out.1
      have y1 := keepc BZ YY.out.2.1
      have y2 := keepc BZ YY.out.2.2.1
      have k0 : wz.cell? ⟨q, 0, none⟩ = some (.int .i64 h) := by rw [← hq]; exact KZ.out.c0
      have k1 : wz.cell? ⟨q, 1, none⟩ = some (.int .i64 i) := by rw [← hq]; exact KZ.out.c1
      have k2 : wz.cell? ⟨q, 2, none⟩ = some (.slice a n cap) := by rw [← hq]; exact KZ.out.c2
      clear BZ KD YY
      go_wp2_with (first | (go_at_call 11; refine (HTx.out _ _ _ _ _ YZ.out.1 YZ.out.2).mono ?_; rintro e w8 ⟨rfl, hb8⟩; have K8 : Hid (Lk W w8 g gB cB gT cT gs cs a n P cap h i b) := KZ.out.below hb8; have nn2 := keepc hb8 y2; have nn3 := keepc hb8 z0; have nn4 := keepc hb8 z2; have j0 := keepc hb8 k0; have j1 := keepc hb8 k1; have j2 := keepc hb8 k2; clear hb8) | (go_at_call 8; refine (HNl.out _ _).mono ?_; rintro e w9 ⟨rfl, hw9⟩; obtain rfl := hw9.symm; clear hw9))
      have F0 : w8.cell? ⟨q, 0, none⟩ = some (.int .i64 h) ∧ w8.cell? ⟨q, 1, none⟩ = some (.int .i64 i) ∧ w8.cell? ⟨q, 2, none⟩ = some (.slice a n cap) ∧ w8.cell? ⟨d, 0, none⟩ = some (.string r2) ∧ w8.cell? ⟨d, 2, none⟩ = some (.int .i64 0) := ⟨j0, j1, j2, nn3, nn4⟩
      clear j0 j1 j2 nn2 nn3 nn4 y0 y1 y2 z0 z2 k0 k1 k2 KZ YZ
      have K := K8
      clear K8
      go_region_held3 (fun w => w.cell? ⟨q, 0, none⟩ = some (.int .i64 h) ∧ w.cell? ⟨q, 1, none⟩ = some (.int .i64 i) ∧ w.cell? ⟨q, 2, none⟩ = some (.slice a n cap) ∧ w.cell? ⟨d, 0, none⟩ = some (.string r2) ∧ w.cell? ⟨d, 2, none⟩ = some (.int .i64 0)) (go_keep) (first | (go_at_call_of 12 (#[.pointer (some ⟨g, 0, none⟩), .string leaf, .int .i64 h, .int .i64 i, .string s, .slice a n cap] : Array Value); refine (HKl.out _ _ (by first | exact K.out.t | exact K.out.drew.t) (by first | exact K.out.x | exact K.out.drew.x)).mono ?_; rintro e w' ⟨rfl, hb'⟩; have K' : Hid (Lk W w' g gB cB gT cT gs cs a n P cap h i b) := (by first | exact K.out.below hb' | exact K.out.drew.below hb'); have F' : w'.cell? ⟨q, 0, none⟩ = some (.int .i64 h) ∧ w'.cell? ⟨q, 1, none⟩ = some (.int .i64 i) ∧ w'.cell? ⟨q, 2, none⟩ = some (.slice a n cap) ∧ w'.cell? ⟨d, 0, none⟩ = some (.string r2) ∧ w'.cell? ⟨d, 2, none⟩ = some (.int .i64 0) := ⟨keepc hb' F0.1, keepc hb' F0.2.1, keepc hb' F0.2.2.1, keepc hb' F0.2.2.2.1, keepc hb' F0.2.2.2.2⟩; clear F0 K hb'; have K := K'; have F0 := F'; clear K' F') | (go_at_call_of 12 (#[.pointer (some ⟨g, 0, none⟩), .string r2, .int .i64 h, .int .i64 i, .string s, .slice a n cap] : Array Value); refine (HKr.out _ _ (by first | exact K.out.t | exact K.out.drew.t) (by first | exact K.out.x | exact K.out.drew.x)).mono ?_; rintro e w' ⟨rfl, hb'⟩; have K' : Hid (Lk W w' g gB cB gT cT gs cs a n P cap h i b) := (by first | exact K.out.below hb' | exact K.out.drew.below hb'); have F' : w'.cell? ⟨q, 0, none⟩ = some (.int .i64 h) ∧ w'.cell? ⟨q, 1, none⟩ = some (.int .i64 i) ∧ w'.cell? ⟨q, 2, none⟩ = some (.slice a n cap) ∧ w'.cell? ⟨d, 0, none⟩ = some (.string r2) ∧ w'.cell? ⟨d, 2, none⟩ = some (.int .i64 0) := ⟨keepc hb' F0.1, keepc hb' F0.2.1, keepc hb' F0.2.2.1, keepc hb' F0.2.2.2.1, keepc hb' F0.2.2.2.2⟩; clear F0 K hb'; have K := K'; have F0 := F'; clear K' F'))
      go_wp2
      go_ret
      exact ⟨by first | rfl | simp | simp [hl], by first | exact K.out.d | (rw [hq]; exact K.out.d)⟩
    · go_simp
      have bl := below_laid wA (Obj.cells #[.string (ByteArray.mk #[]), .slice none 0 0, .int .i64 0] 38)
      have KC : Hid (Lk W (wA.alloc (Obj.cells #[.string (ByteArray.mk #[]), .slice none 0 0, .int .i64 0] 38)) g gB cB gT cT gs cs a n P cap h i b) := KA.out.below bl
      have FC : (wA.alloc (Obj.cells #[.string (ByteArray.mk #[]), .slice none 0 0, .int .i64 0] 38)).cell? ⟨q, 0, none⟩ = some (.int .i64 h) ∧ (wA.alloc (Obj.cells #[.string (ByteArray.mk #[]), .slice none 0 0, .int .i64 0] 38)).cell? ⟨q, 1, none⟩ = some (.int .i64 i) ∧ (wA.alloc (Obj.cells #[.string (ByteArray.mk #[]), .slice none 0 0, .int .i64 0] 38)).cell? ⟨q, 2, none⟩ = some (.slice a n cap) ∧ (wA.alloc (Obj.cells #[.string (ByteArray.mk #[]), .slice none 0 0, .int .i64 0] 38)).cell? ⟨b, 0, none⟩ = some (.slice (some ⟨gB, 0, none⟩) 256 cB) ∧ (wA.alloc (Obj.cells #[.string (ByteArray.mk #[]), .slice none 0 0, .int .i64 0] 38)).cell? ⟨b, 1, none⟩ = some (.slice (some ⟨gT, 0, none⟩) 8 cT) := by rw [← hq]; exact ⟨KC.out.c0, KC.out.c1, KC.out.c2, KC.out.r0, KC.out.r1⟩
      have BC : Below w7.drew.heap.size w7.drew (wA.alloc (Obj.cells #[.string (ByteArray.mk #[]), .slice none 0 0, .int .i64 0] 38)) := hbA.trans (bl.mono hbA.size)
      have u0 : (wA.alloc (Obj.cells #[.string (ByteArray.mk #[]), .slice none 0 0, .int .i64 0] 38)).cell? ⟨wA.heap.size, 0, none⟩ = some (.string (ByteArray.mk #[])) := by simp [go_sem]
      have u1 : (wA.alloc (Obj.cells #[.string (ByteArray.mk #[]), .slice none 0 0, .int .i64 0] 38)).cell? ⟨wA.heap.size, 1, none⟩ = some (.slice none 0 0) := by simp [go_sem]
      have u2 : (wA.alloc (Obj.cells #[.string (ByteArray.mk #[]), .slice none 0 0, .int .i64 0] 38)).cell? ⟨wA.heap.size, 2, none⟩ = some (.int .i64 0) := by simp [go_sem]
      have uz : ∀ o, (wA.alloc (Obj.cells #[.string (ByteArray.mk #[]), .slice none 0 0, .int .i64 0] 38)).frozen? ⟨wA.heap.size, o, none⟩ = false := fun o => by simp [go_sem]
      have hdl : w7.drew.heap.size ≤ wA.heap.size := hbA.size
      clear bl
      refine hKK.out _ _ FC (fun hHeld => ?_)
      clear hKK KK
      try simp only [Act.put]
      generalize wA.alloc (Obj.cells #[.string (ByteArray.mk #[]), .slice none 0 0, .int .i64 0] 38) = wC at *
      generalize wA.heap.size = d at *
      refine wpAnyH_ready (rs := [10]) (by kernel_rfl) (by simp) ?_
      refine AllReadyH.cons (o := _) rfl (fun KK hKK => ?_) AllReadyH.nil
      go_simp
      (go_at_call 9; refine (HR2.out _ _ _ _ _ _ _ KC.out.rt KC.out.x).mono ?_; rintro e wB ⟨a8, c8, rfl, hbB⟩)
      have KB : Hid (Lk W wB g gB cB gT cT gs cs a n P cap h i b) := KC.out.below hbB
      have BB : Below w7.drew.heap.size w7.drew wB := BC.trans (hbB.mono BC.size)
      have v0 := keepc hbB u0
      have v1 := keepc hbB u1
      have v2 := keepc hbB u2
      have hdc := cell_lt u0
      have p0 := keepz hbB hdc (uz 0)
      have p1 := keepz hbB hdc (uz 1)
      have p2 := keepz hbB hdc (uz 2)
      have FB : wB.cell? ⟨q, 0, none⟩ = some (.int .i64 h) ∧ wB.cell? ⟨q, 1, none⟩ = some (.int .i64 i) ∧ wB.cell? ⟨q, 2, none⟩ = some (.slice a n cap) ∧ wB.cell? ⟨b, 0, none⟩ = some (.slice (some ⟨gB, 0, none⟩) 256 cB) ∧ wB.cell? ⟨b, 1, none⟩ = some (.slice (some ⟨gT, 0, none⟩) 8 cT) := by rw [← hq]; exact ⟨KB.out.c0, KB.out.c1, KB.out.c2, KB.out.r0, KB.out.r1⟩
      refine hKK.out _ _ FB (fun hHeld => ?_)
      clear hKK KK u0 u1 u2 uz
      try simp only [Act.put]
      refine wpAnyH_done (by kernel_rfl) ?_ _
      refine peel_last rfl (fun KK hKK => ?_)
      go_simp
      refine hKK _ _ ?_
      refine NoPanic.normal ?_
      obtain ⟨BZ, z0, z2⟩ := set3 (x' := .string r2) (y' := .slice a8 m2 c8) (z' := .int .i64 0) BB hdl v0 v2
      generalize ((wB.setCell ⟨d, 0, none⟩ (.string r2)).setCell ⟨d, 1, none⟩ (.slice a8 m2 c8)).setCell ⟨d, 2, none⟩ (.int .i64 0) = wz at BZ z0 z2 ⊢
      clear hKK KK hHeld
      have KZ : Hid (Lk W wz g gB cB gT cT gs cs a n P cap h i b) := KD.out.below BZ
      have YZ : Hid (Txs wz a5 m T ∧ Txs wz a6 m T) := ⟨YY.out.2.2.2.1.below BZ, YY.out.2.2.2.2.below BZ⟩
      have y0 := keepc BZ YY.out.1
      have y1 := keepc BZ YY.out.2.1
      have y2 := keepc BZ YY.out.2.2.1
      have k0 : wz.cell? ⟨q, 0, none⟩ = some (.int .i64 h) := by rw [← hq]; exact KZ.out.c0
      have k1 : wz.cell? ⟨q, 1, none⟩ = some (.int .i64 i) := by rw [← hq]; exact KZ.out.c1
      have k2 : wz.cell? ⟨q, 2, none⟩ = some (.slice a n cap) := by rw [← hq]; exact KZ.out.c2
      clear BZ KD YY
      go_wp2_with (first | (go_at_call 11; refine (HTx.out _ _ _ _ _ YZ.out.1 YZ.out.2).mono ?_; rintro e w8 ⟨rfl, hb8⟩; have K8 : Hid (Lk W w8 g gB cB gT cT gs cs a n P cap h i b) := KZ.out.below hb8; have nn2 := keepc hb8 y2; have nn3 := keepc hb8 z0; have nn4 := keepc hb8 z2; have j0 := keepc hb8 k0; have j1 := keepc hb8 k1; have j2 := keepc hb8 k2; clear hb8) | (go_at_call 8; refine (HNl.out _ _).mono ?_; rintro e w9 ⟨rfl, hw9⟩; obtain rfl := hw9.symm; clear hw9))
      have F0 : w8.cell? ⟨q, 0, none⟩ = some (.int .i64 h) ∧ w8.cell? ⟨q, 1, none⟩ = some (.int .i64 i) ∧ w8.cell? ⟨q, 2, none⟩ = some (.slice a n cap) ∧ w8.cell? ⟨d, 0, none⟩ = some (.string r2) ∧ w8.cell? ⟨d, 2, none⟩ = some (.int .i64 0) := ⟨j0, j1, j2, nn3, nn4⟩
      clear j0 j1 j2 nn2 nn3 nn4 y0 y1 y2 z0 z2 k0 k1 k2 KZ YZ
      have K := K8
      clear K8
      go_region_held3 (fun w => w.cell? ⟨q, 0, none⟩ = some (.int .i64 h) ∧ w.cell? ⟨q, 1, none⟩ = some (.int .i64 i) ∧ w.cell? ⟨q, 2, none⟩ = some (.slice a n cap) ∧ w.cell? ⟨d, 0, none⟩ = some (.string r2) ∧ w.cell? ⟨d, 2, none⟩ = some (.int .i64 0)) (go_keep) (first | (go_at_call_of 12 (#[.pointer (some ⟨g, 0, none⟩), .string leaf, .int .i64 h, .int .i64 i, .string s, .slice a n cap] : Array Value); refine (HKl.out _ _ (by first | exact K.out.t | exact K.out.drew.t) (by first | exact K.out.x | exact K.out.drew.x)).mono ?_; rintro e w' ⟨rfl, hb'⟩; have K' : Hid (Lk W w' g gB cB gT cT gs cs a n P cap h i b) := (by first | exact K.out.below hb' | exact K.out.drew.below hb'); have F' : w'.cell? ⟨q, 0, none⟩ = some (.int .i64 h) ∧ w'.cell? ⟨q, 1, none⟩ = some (.int .i64 i) ∧ w'.cell? ⟨q, 2, none⟩ = some (.slice a n cap) ∧ w'.cell? ⟨d, 0, none⟩ = some (.string r2) ∧ w'.cell? ⟨d, 2, none⟩ = some (.int .i64 0) := ⟨keepc hb' F0.1, keepc hb' F0.2.1, keepc hb' F0.2.2.1, keepc hb' F0.2.2.2.1, keepc hb' F0.2.2.2.2⟩; clear F0 K hb'; have K := K'; have F0 := F'; clear K' F') | (go_at_call_of 12 (#[.pointer (some ⟨g, 0, none⟩), .string r2, .int .i64 h, .int .i64 i, .string s, .slice a n cap] : Array Value); refine (HKr.out _ _ (by first | exact K.out.t | exact K.out.drew.t) (by first | exact K.out.x | exact K.out.drew.x)).mono ?_; rintro e w' ⟨rfl, hb'⟩; have K' : Hid (Lk W w' g gB cB gT cT gs cs a n P cap h i b) := (by first | exact K.out.below hb' | exact K.out.drew.below hb'); have F' : w'.cell? ⟨q, 0, none⟩ = some (.int .i64 h) ∧ w'.cell? ⟨q, 1, none⟩ = some (.int .i64 i) ∧ w'.cell? ⟨q, 2, none⟩ = some (.slice a n cap) ∧ w'.cell? ⟨d, 0, none⟩ = some (.string r2) ∧ w'.cell? ⟨d, 2, none⟩ = some (.int .i64 0) := ⟨keepc hb' F0.1, keepc hb' F0.2.1, keepc hb' F0.2.2.1, keepc hb' F0.2.2.2.1, keepc hb' F0.2.2.2.2⟩; clear F0 K hb'; have K := K'; have F0 := F'; clear K' F'))
      go_wp2
      go_ret
      exact ⟨by first | rfl | simp | simp [hl], by first | exact K.out.d | (rw [hq]; exact K.out.d)⟩
  · go_simp
    have bl : Below w7.drew.heap.size w7.drew (w7.alloc (Obj.cells #[.string (ByteArray.mk #[]), .slice none 0 0, .int .i64 0] 38)).drew := below_laid w7.drew (Obj.cells #[.string (ByteArray.mk #[]), .slice none 0 0, .int .i64 0] 38)
    have KC : Hid (Lk W (w7.alloc (Obj.cells #[.string (ByteArray.mk #[]), .slice none 0 0, .int .i64 0] 38)).drew g gB cB gT cT gs cs a n P cap h i b) := KD.out.below bl
    have FC : (w7.alloc (Obj.cells #[.string (ByteArray.mk #[]), .slice none 0 0, .int .i64 0] 38)).drew.cell? ⟨q, 0, none⟩ = some (.int .i64 h) ∧ (w7.alloc (Obj.cells #[.string (ByteArray.mk #[]), .slice none 0 0, .int .i64 0] 38)).drew.cell? ⟨q, 1, none⟩ = some (.int .i64 i) ∧ (w7.alloc (Obj.cells #[.string (ByteArray.mk #[]), .slice none 0 0, .int .i64 0] 38)).drew.cell? ⟨q, 2, none⟩ = some (.slice a n cap) ∧ (w7.alloc (Obj.cells #[.string (ByteArray.mk #[]), .slice none 0 0, .int .i64 0] 38)).drew.cell? ⟨b, 0, none⟩ = some (.slice (some ⟨gB, 0, none⟩) 256 cB) ∧ (w7.alloc (Obj.cells #[.string (ByteArray.mk #[]), .slice none 0 0, .int .i64 0] 38)).drew.cell? ⟨b, 1, none⟩ = some (.slice (some ⟨gT, 0, none⟩) 8 cT) := by rw [← hq]; exact ⟨KC.out.c0, KC.out.c1, KC.out.c2, KC.out.r0, KC.out.r1⟩
    have u0 : (w7.alloc (Obj.cells #[.string (ByteArray.mk #[]), .slice none 0 0, .int .i64 0] 38)).drew.cell? ⟨w7.heap.size, 0, none⟩ = some (.string (ByteArray.mk #[])) := by simp [go_sem]
    have u1 : (w7.alloc (Obj.cells #[.string (ByteArray.mk #[]), .slice none 0 0, .int .i64 0] 38)).drew.cell? ⟨w7.heap.size, 1, none⟩ = some (.slice none 0 0) := by simp [go_sem]
    have u2 : (w7.alloc (Obj.cells #[.string (ByteArray.mk #[]), .slice none 0 0, .int .i64 0] 38)).drew.cell? ⟨w7.heap.size, 2, none⟩ = some (.int .i64 0) := by simp [go_sem]
    have uz : ∀ o, (w7.alloc (Obj.cells #[.string (ByteArray.mk #[]), .slice none 0 0, .int .i64 0] 38)).drew.frozen? ⟨w7.heap.size, o, none⟩ = false := fun o => by simp [go_sem]
    have hdl : w7.drew.heap.size ≤ w7.heap.size := Nat.le_refl _
    refine hKK.out _ _ FC (fun hHeld => ?_)
    clear hKK KK
    try simp only [Act.put]
    generalize (w7.alloc (Obj.cells #[.string (ByteArray.mk #[]), .slice none 0 0, .int .i64 0] 38)).drew = wC at bl KC FC u0 u1 u2 uz hHeld ⊢
    generalize w7.heap.size = d at u0 u1 u2 uz hdl ⊢
    refine wpAnyH_ready (rs := [7]) (by kernel_rfl) (by simp) ?_
    refine AllReadyH.cons (o := _) rfl (fun KK hKK => ?_) AllReadyH.nil
    go_simp
    (go_at_call 10; refine (HLs.out _ _ _ _ _ _ _ KC.out.rt).mono ?_; rintro e wA ⟨rfl, hbA⟩)
    have KA : Hid (Lk W wA g gB cB gT cT gs cs a n P cap h i b) := KC.out.below hbA
    have FA : wA.cell? ⟨q, 0, none⟩ = some (.int .i64 h) ∧ wA.cell? ⟨q, 1, none⟩ = some (.int .i64 i) ∧ wA.cell? ⟨q, 2, none⟩ = some (.slice a n cap) ∧ wA.cell? ⟨b, 0, none⟩ = some (.slice (some ⟨gB, 0, none⟩) 256 cB) ∧ wA.cell? ⟨b, 1, none⟩ = some (.slice (some ⟨gT, 0, none⟩) 8 cT) := by rw [← hq]; exact ⟨KA.out.c0, KA.out.c1, KA.out.c2, KA.out.r0, KA.out.r1⟩
    refine hKK.out _ _ FA (fun hHeld => ?_)
    clear hKK KK
    try simp only [Act.put]
    refine wpAnyH_ready (rs := [10]) (by kernel_rfl) (by simp) ?_
    refine AllReadyH.cons (o := _) rfl (fun KK hKK => ?_) AllReadyH.nil
    go_simp
    (go_at_call 9; refine (HR2.out _ _ _ _ _ _ _ KA.out.rt KA.out.x).mono ?_; rintro e wB ⟨a8, c8, rfl, hbB⟩)
    have KB : Hid (Lk W wB g gB cB gT cT gs cs a n P cap h i b) := KA.out.below hbB
    have BA : Below w7.drew.heap.size w7.drew wA := bl.trans (hbA.mono bl.size)
    have BB : Below w7.drew.heap.size w7.drew wB := BA.trans (hbB.mono BA.size)
    have v0 := keepc hbB (keepc hbA u0)
    have v1 := keepc hbB (keepc hbA u1)
    have v2 := keepc hbB (keepc hbA u2)
    have hdc := cell_lt u0
    have hdA := cell_lt (keepc hbA u0)
    have p0 := keepz hbB hdA (keepz hbA hdc (uz 0))
    have p1 := keepz hbB hdA (keepz hbA hdc (uz 1))
    have p2 := keepz hbB hdA (keepz hbA hdc (uz 2))
    have FB : wB.cell? ⟨q, 0, none⟩ = some (.int .i64 h) ∧ wB.cell? ⟨q, 1, none⟩ = some (.int .i64 i) ∧ wB.cell? ⟨q, 2, none⟩ = some (.slice a n cap) ∧ wB.cell? ⟨b, 0, none⟩ = some (.slice (some ⟨gB, 0, none⟩) 256 cB) ∧ wB.cell? ⟨b, 1, none⟩ = some (.slice (some ⟨gT, 0, none⟩) 8 cT) := by rw [← hq]; exact ⟨KB.out.c0, KB.out.c1, KB.out.c2, KB.out.r0, KB.out.r1⟩
    refine hKK.out _ _ FB (fun hHeld => ?_)
    clear hKK KK u0 u1 u2 uz
    try simp only [Act.put]
    refine wpAnyH_done (by kernel_rfl) ?_ _
    refine peel_last rfl (fun KK hKK => ?_)
    go_simp
    refine hKK _ _ ?_
    refine NoPanic.normal ?_
    obtain ⟨BZ, z0, z2⟩ := set3 (x' := .string r2) (y' := .slice a8 m2 c8) (z' := .int .i64 0) BB hdl v0 v2
    generalize ((wB.setCell ⟨d, 0, none⟩ (.string r2)).setCell ⟨d, 1, none⟩ (.slice a8 m2 c8)).setCell ⟨d, 2, none⟩ (.int .i64 0) = wz at BZ z0 z2 ⊢
    clear hKK KK hHeld
    have KZ : Hid (Lk W wz g gB cB gT cT gs cs a n P cap h i b) := KD.out.below BZ
    have YZ : Hid (Txs wz a5 m T ∧ Txs wz a6 m T) := ⟨YY.out.2.2.2.1.below BZ, YY.out.2.2.2.2.below BZ⟩
    have y0 := keepc BZ YY.out.1
    have y1 := keepc BZ YY.out.2.1
    have y2 := keepc BZ YY.out.2.2.1
    have k0 : wz.cell? ⟨q, 0, none⟩ = some (.int .i64 h) := by rw [← hq]; exact KZ.out.c0
    have k1 : wz.cell? ⟨q, 1, none⟩ = some (.int .i64 i) := by rw [← hq]; exact KZ.out.c1
    have k2 : wz.cell? ⟨q, 2, none⟩ = some (.slice a n cap) := by rw [← hq]; exact KZ.out.c2
    clear BZ KD YY
    go_wp2_with (first | (go_at_call 11; refine (HTx.out _ _ _ _ _ YZ.out.1 YZ.out.2).mono ?_; rintro e w8 ⟨rfl, hb8⟩; have K8 : Hid (Lk W w8 g gB cB gT cT gs cs a n P cap h i b) := KZ.out.below hb8; have nn2 := keepc hb8 y2; have nn3 := keepc hb8 z0; have nn4 := keepc hb8 z2; have j0 := keepc hb8 k0; have j1 := keepc hb8 k1; have j2 := keepc hb8 k2; clear hb8) | (go_at_call 8; refine (HNl.out _ _).mono ?_; rintro e w9 ⟨rfl, hw9⟩; obtain rfl := hw9.symm; clear hw9))
    have F0 : w8.cell? ⟨q, 0, none⟩ = some (.int .i64 h) ∧ w8.cell? ⟨q, 1, none⟩ = some (.int .i64 i) ∧ w8.cell? ⟨q, 2, none⟩ = some (.slice a n cap) ∧ w8.cell? ⟨d, 0, none⟩ = some (.string r2) ∧ w8.cell? ⟨d, 2, none⟩ = some (.int .i64 0) := ⟨j0, j1, j2, nn3, nn4⟩
    clear j0 j1 j2 nn2 nn3 nn4 y0 y1 y2 z0 z2 k0 k1 k2 KZ YZ
    have K := K8
    clear K8
    go_region_held3 (fun w => w.cell? ⟨q, 0, none⟩ = some (.int .i64 h) ∧ w.cell? ⟨q, 1, none⟩ = some (.int .i64 i) ∧ w.cell? ⟨q, 2, none⟩ = some (.slice a n cap) ∧ w.cell? ⟨d, 0, none⟩ = some (.string r2) ∧ w.cell? ⟨d, 2, none⟩ = some (.int .i64 0)) (go_keep) (first | (go_at_call_of 12 (#[.pointer (some ⟨g, 0, none⟩), .string leaf, .int .i64 h, .int .i64 i, .string s, .slice a n cap] : Array Value); refine (HKl.out _ _ (by first | exact K.out.t | exact K.out.drew.t) (by first | exact K.out.x | exact K.out.drew.x)).mono ?_; rintro e w' ⟨rfl, hb'⟩; have K' : Hid (Lk W w' g gB cB gT cT gs cs a n P cap h i b) := (by first | exact K.out.below hb' | exact K.out.drew.below hb'); have F' : w'.cell? ⟨q, 0, none⟩ = some (.int .i64 h) ∧ w'.cell? ⟨q, 1, none⟩ = some (.int .i64 i) ∧ w'.cell? ⟨q, 2, none⟩ = some (.slice a n cap) ∧ w'.cell? ⟨d, 0, none⟩ = some (.string r2) ∧ w'.cell? ⟨d, 2, none⟩ = some (.int .i64 0) := ⟨keepc hb' F0.1, keepc hb' F0.2.1, keepc hb' F0.2.2.1, keepc hb' F0.2.2.2.1, keepc hb' F0.2.2.2.2⟩; clear F0 K hb'; have K := K'; have F0 := F'; clear K' F') | (go_at_call_of 12 (#[.pointer (some ⟨g, 0, none⟩), .string r2, .int .i64 h, .int .i64 i, .string s, .slice a n cap] : Array Value); refine (HKr.out _ _ (by first | exact K.out.t | exact K.out.drew.t) (by first | exact K.out.x | exact K.out.drew.x)).mono ?_; rintro e w' ⟨rfl, hb'⟩; have K' : Hid (Lk W w' g gB cB gT cT gs cs a n P cap h i b) := (by first | exact K.out.below hb' | exact K.out.drew.below hb'); have F' : w'.cell? ⟨q, 0, none⟩ = some (.int .i64 h) ∧ w'.cell? ⟨q, 1, none⟩ = some (.int .i64 i) ∧ w'.cell? ⟨q, 2, none⟩ = some (.slice a n cap) ∧ w'.cell? ⟨d, 0, none⟩ = some (.string r2) ∧ w'.cell? ⟨d, 2, none⟩ = some (.int .i64 0) := ⟨keepc hb' F0.1, keepc hb' F0.2.1, keepc hb' F0.2.2.1, keepc hb' F0.2.2.2.1, keepc hb' F0.2.2.2.2⟩; clear F0 K hb'; have K := K'; have F0 := F'; clear K' F'))
    go_wp2
    go_ret
    exact ⟨by first | rfl | simp | simp [hl], by first | exact K.out.d | (rw [hq]; exact K.out.d)⟩
end Go.Proofs.YthmjbdmnlkbllaaGreat
