/- The law's awake of layer 12, the answers of merkle's Climb, Check and Twin without tables, and the walk of MerkleNil, over the seat's translation. -/
import Derived.Test.YthmjbdmnlkbllaaGreatMkE
import Derived.Test.YthmjbdmnlkbllaaGreatFew
import Derived.WalkMore
namespace Go.Proofs.YthmjbdmnlkbllaaGreat
open Go.RowKit

theorem Hold.drew {W w : World} {g : Nat} (h : Hold W w g) : Hold W w.drew g := ⟨h.t, h.d.drew⟩
theorem keepd {w : World} {a : Addr} {v : Value} (h : w.cell? a = some v) : w.drew.cell? a = some v := h
/-- The page's two texts. -/
def abv : Nat → ByteArray
  | 0 => ByteArray.mk #[97]
  | _ => ByteArray.mk #[98]
theorem ab_txs {w : World} {b : Nat} (h0 : w.cell? ⟨b, 0, none⟩ = some (.string (ByteArray.mk #[97]))) (h1 : w.cell? ⟨b, 1, none⟩ = some (.string (ByteArray.mk #[98]))) : Txs w (some ⟨b, 0, none⟩) 2 abv := ⟨fun i hi => by
  refine ⟨b, 0, rfl, cell_lt h0, ?_⟩
  rcases i with _ | _ | i
  · exact h0
  · exact h1
  · omega⟩
theorem ab_small : ∀ i, (abv i).size ≤ 1048575
  | 0 => by decide
  | _ + 1 => by show (ByteArray.mk #[98]).size ≤ _; decide
set_option maxHeartbeats 1600000 in
set_option maxRecDepth 100000 in
theorem awake12 : Ret 5 #[] (.bool true) := by
  intro W
  have HR : Hid (∀ g b w, Tab w g → w.cell? ⟨b, 0, none⟩ = some (.string (ByteArray.mk #[97])) → w.cell? ⟨b, 1, none⟩ = some (.string (ByteArray.mk #[98])) → Calls Tryz.prog 14 #[.pointer (some ⟨g, 0, none⟩), .slice (some ⟨b, 0, none⟩) 2 2] w fun e w' => ∃ G cap' bl, e = .returned (.tuple #[.slice (some ⟨G, 0, none⟩) 2 cap', .int .i64 0]) ∧ 2 ≤ cap' ∧ Tree w' G 1 bl abv ∧ Below w.heap.size w w') := fun g b w t h0 h1 => rows_ok g (some ⟨b, 0, none⟩) 2 2 1 abv (by decide) rfl (fun i _ => ab_small i) w t (ab_txs h0 h1)
  have HO : Hid (∀ g b w, Tab w g → w.cell? ⟨b, 0, none⟩ = some (.string (ByteArray.mk #[97])) → w.cell? ⟨b, 1, none⟩ = some (.string (ByteArray.mk #[98])) → Calls Tryz.prog 16 #[.pointer (some ⟨g, 0, none⟩), .slice (some ⟨b, 0, none⟩) 2 2] w fun e w' => e = .returned (.tuple #[.string (ndv (lfv (ByteArray.mk #[97])) (lfv (ByteArray.mk #[98]))), .int .i64 0]) ∧ Below w.heap.size w w') := fun g b w t h0 h1 => root_ok g (some ⟨b, 0, none⟩) 2 2 1 abv (by decide) rfl (fun i _ => ab_small i) w t (ab_txs h0 h1)
  have HP : Hid (∀ G cap' bl w, 2 ≤ cap' → Tree w G 1 bl abv → Calls Tryz.prog 15 #[.slice (some ⟨G, 0, none⟩) 2 cap', .int .i64 0] w fun e w' => ∃ b', e = .returned (.tuple #[.slice (some ⟨b', 0, none⟩) 1 1, .int .i64 0]) ∧ w'.cell? ⟨b', 0, none⟩ = some (.string (lfv (ByteArray.mk #[98]))) ∧ Below w.heap.size w w') := fun G cap' bl w hc t => by
    refine (path_ok (some ⟨G, 0, none⟩) 1 cap' 0 _ _ _ _ (by decide) hc (by decide) (fun k _ => Nat.le_trans (szr_le (by decide) k) (by decide)) (by decide) (by decide) w t.gr).mono ?_
    rintro e w' ⟨b', rfl, _, hr, hb⟩
    exact ⟨b', rfl, hr.cell (by decide), hb⟩
  have HLa : Hid (∀ g w, Tab w g → Calls Tryz.prog 17 #[.pointer (some ⟨g, 0, none⟩), .string (ByteArray.mk #[97])] w fun e w' => e = .returned (.string (lfv (ByteArray.mk #[97]))) ∧ Below w.heap.size w w') := fun g w t => leaf_ok g _ (by decide) w t
  have HLb : Hid (∀ g w, Tab w g → Calls Tryz.prog 17 #[.pointer (some ⟨g, 0, none⟩), .string (ByteArray.mk #[98])] w fun e w' => e = .returned (.string (lfv (ByteArray.mk #[98]))) ∧ Below w.heap.size w w') := fun g w t => leaf_ok g _ (by decide) w t
  have HN : Hid (∀ g w, Tab w g → Calls Tryz.prog 18 #[.pointer (some ⟨g, 0, none⟩), .string (lfv (ByteArray.mk #[97])), .string (lfv (ByteArray.mk #[98]))] w fun e w' => e = .returned (.string (ndv (lfv (ByteArray.mk #[97])) (lfv (ByteArray.mk #[98])))) ∧ Below w.heap.size w w') := fun g w t => node_ok g _ _ (by rw [lfv_size]; decide) (by rw [lfv_size]; decide) w t
  have hz := ndv_size (lfv (ByteArray.mk #[97])) (lfv (ByteArray.mk #[98]))
  generalize ndv (lfv (ByteArray.mk #[97])) (lfv (ByteArray.mk #[98])) = r at *
  generalize lfv (ByteArray.mk #[97]) = x at *
  generalize lfv (ByteArray.mk #[98]) = y at *
  go_enter Tryz.func5, Tryz.ntmps5
  go_wp2_with (first
    | (go_at_call 6; refine (make_any _).mono ?_; rintro e w1 ⟨g, rfl, hg, ht, hb1⟩; have HT : Hid (Hold W w1 g) := ⟨ht, hb1⟩; clear ht hb1)
    | (go_at_call 14; have HT2 : Hid (Hold W (w1.alloc (.cells #[.string (ByteArray.mk #[97]), .string (ByteArray.mk #[98])] 9)) g) := HT.out.below (below_laid _ _); refine (HR.out _ _ _ HT2.out.t (by simp [go_sem]) (by simp [go_sem])).mono ?_; rintro e w2 ⟨G, cap', bl, rfl, hcp, hTr, hb2⟩; have HT3 : Hid (Hold W w2 g) := HT2.out.below hb2; have HTr : Hid (Tree w2 G 1 bl abv) := hTr; clear hTr hb2 HT HT2)
    | (go_at_call 15; refine (HP.out _ _ _ _ hcp HTr.out).mono ?_; rintro e w3 ⟨b', rfl, c3, hb3⟩; have HT4 : Hid (Hold W w3 g) := HT3.out.below hb3; clear hb3 HT3)
    | (go_at_call 16; have HT5 : Hid (Hold W (w3.alloc (.cells #[.string (ByteArray.mk #[97]), .string (ByteArray.mk #[98])] 9)) g) := HT4.out.below (below_laid _ _); refine (HO.out _ _ _ HT5.out.t (by simp [go_sem]) (by simp [go_sem])).mono ?_; rintro e w4 ⟨rfl, hb4⟩; have HT6 : Hid (Hold W w4 g) := HT5.out.below hb4; have c4 := keepc hb4 (keepc (below_laid _ _) c3); clear hb4 HT5 HT4 c3))
  have K := HT6
  clear HT6
  go_region_held3 (fun w => w.cell? ⟨b', 0, none⟩ = some (.string y)) (go_keep) (first | (go_at_call_of 17 (#[.pointer (some ⟨g, 0, none⟩), .string (ByteArray.mk #[98])] : Array Value); refine (HLb.out _ _ (by first | exact K.out.t | exact K.out.drew.t)).mono ?_; rintro e w' ⟨rfl, hb'⟩; have K' : Hid (Hold W w' g) := (by first | exact K.out.below hb' | exact K.out.drew.below hb'); have c4' := (by first | exact keepc hb' c4 | exact keepc hb' (keepd c4)); clear c4 K hb'; have K := K'; have c4 := c4'; clear K' c4') | (go_at_call_of 17 (#[.pointer (some ⟨g, 0, none⟩), .string (ByteArray.mk #[97])] : Array Value); refine (HLa.out _ _ (by first | exact K.out.t | exact K.out.drew.t)).mono ?_; rintro e w' ⟨rfl, hb'⟩; have K' : Hid (Hold W w' g) := (by first | exact K.out.below hb' | exact K.out.drew.below hb'); have c4' := (by first | exact keepc hb' c4 | exact keepc hb' (keepd c4)); clear c4 K hb'; have K := K'; have c4 := c4'; clear K' c4') | (go_at_call_of 18 (#[.pointer (some ⟨g, 0, none⟩), .string x, .string y] : Array Value); refine (HN.out _ _ (by first | exact K.out.t | exact K.out.drew.t)).mono ?_; rintro e w' ⟨rfl, hb'⟩; have K' : Hid (Hold W w' g) := (by first | exact K.out.below hb' | exact K.out.drew.below hb'); have c4' := (by first | exact keepc hb' c4 | exact keepc hb' (keepd c4)); clear c4 K hb'; have K := K'; have c4 := c4'; clear K' c4'))
  go_wp2
  go_ret
  exact ⟨rfl, K.out.d⟩
set_option maxHeartbeats 1600000 in
set_option maxRecDepth 100000 in
theorem climb_nil (h i : Int) (s v : Value) : Same 8 #[.pointer none, .int .i64 h, .int .i64 i, s, v] (.tuple #[.string (ByteArray.mk #[]), .slice none 0 0, .int .i64 1]) := by
  intro W
  go_enter Tryz.func8, Tryz.ntmps8
  go_wp2
  go_step3
  go_wp2
  rw [Exit.noGoto_ret]
  go_ret3
  exact ⟨rfl, rfl⟩
set_option maxHeartbeats 1600000 in
set_option maxRecDepth 100000 in
theorem check_nil (r s : ByteArray) (v : Value) (h i : Int) (hs : s.size ≤ 1048575) : Same 12 #[.pointer none, .string r, .int .i64 h, .int .i64 i, .string s, v] (.bool false) := by
  intro W
  have H1 : Hid (Same 17 #[.pointer none, .string s] (.string (ByteArray.mk #[]))) := leaf_nil s hs
  have H2 : Hid (Same 8 #[.pointer none, .int .i64 h, .int .i64 i, .string (ByteArray.mk #[]), v] (.tuple #[.string (ByteArray.mk #[]), .slice none 0 0, .int .i64 1])) := climb_nil _ _ _ _
  go_enter Tryz.func12, Tryz.ntmps12
  go_wp2_with (first | (go_at_call 17; refine (H1.out _).mono ?_; rintro e w1 ⟨rfl, rfl⟩) | (go_at_call 8; refine (H2.out _).mono ?_; rintro e w2 ⟨rfl, rfl⟩))
  go_ret
  exact ⟨rfl, rfl⟩
end Go.Proofs.YthmjbdmnlkbllaaGreat
