/- The contracts of the document's Leaf, Node and Root of layer 12 over the seat's translation. -/
import Derived.Test.YtfepgoddoohpbaaGreatRsA
import Derived.Test.YtfepgoddoohpbaaGreatMkH
namespace Go.Proofs.YtfepgoddoohpbaaGreat
open Go.RowKit

/-- The document's tables, handed on. -/
abbrev tbl (gB cB gT cT : Nat) : Value := .agg #[.slice (some ⟨gB, 0, none⟩) 256 cB, .slice (some ⟨gT, 0, none⟩) 8 cT]
theorem pk_new {W : World} {gB gT : Nat} (cB cT : Nat) {gs cs : Nat → Nat} (h : RTab W gB gT gs cs) : Pk W (W.alloc (Obj.cells #[.slice (some ⟨gB, 0, none⟩) 256 cB, .slice (some ⟨gT, 0, none⟩) 8 cT] 39)) gB cB gT cT gs cs W.heap.size :=
  ⟨h.below (below_laid _ _), by simp [go_sem], by simp [go_sem], below_laid _ _⟩
set_option maxHeartbeats 1000000 in
theorem rleaf_ok (gB cB gT cT : Nat) (gs cs : Nat → Nat) (s : ByteArray) (hs : s.size ≤ 100000) (W : World) (hR : RTab W gB gT gs cs) :
    Calls Tryz.prog 17 #[tbl gB cB gT cT, .string s] W fun e w' => e = .returned (.string (lfv s)) ∧ Below W.heap.size W w' := by
  have h1 : (ByteArray.mk #[0]).size = 1 := rfl
  have hz : (ByteArray.mk #[0] ++ s).size = 1 + s.size := ByteArray.size_append
  have H : Hid (∀ w, RTab w gB gT gs cs → Calls Tryz.prog 24 #[.agg #[.slice (some ⟨gB, 0, none⟩) 256 cB, .slice (some ⟨gT, 0, none⟩) 8 cT], .string (ByteArray.mk #[0] ++ s)] w fun e w' => e = .returned (.string (lfv s)) ∧ Below w.heap.size w w') := fun w t => rsum_ok gB cB gT cT gs cs _ (by omega) w t
  have HK : Hid (Pk W (W.alloc (Obj.cells #[.slice (some ⟨gB, 0, none⟩) 256 cB, .slice (some ⟨gT, 0, none⟩) 8 cT] 39)) gB cB gT cT gs cs W.heap.size) := pk_new cB cT hR
  clear hR
  generalize lfv s = c at *
  go_enter Tryz.func17, Tryz.ntmps17
  go_wp2_with (go_at_call 24; refine (H.out _ HK.out.t).mono ?_; rintro e w1 ⟨rfl, hb1⟩)
  go_ret
  exact ⟨rfl, HK.out.d.trans (hb1.mono HK.out.d.size)⟩
set_option maxHeartbeats 1000000 in
theorem rnode_ok (gB cB gT cT : Nat) (gs cs : Nat → Nat) (a b : ByteArray) (ha : a.size ≤ 1000) (hb : b.size ≤ 1000) (W : World) (hR : RTab W gB gT gs cs) :
    Calls Tryz.prog 37 #[tbl gB cB gT cT, .string a, .string b] W fun e w' => e = .returned (.string (ndv a b)) ∧ Below W.heap.size W w' := by
  have h1 : (ByteArray.mk #[1]).size = 1 := rfl
  have hz : (ByteArray.mk #[1] ++ a).size = 1 + a.size := ByteArray.size_append
  have hy : (ByteArray.mk #[1] ++ a ++ b).size = (ByteArray.mk #[1] ++ a).size + b.size := ByteArray.size_append
  have H : Hid (∀ w, RTab w gB gT gs cs → Calls Tryz.prog 24 #[.agg #[.slice (some ⟨gB, 0, none⟩) 256 cB, .slice (some ⟨gT, 0, none⟩) 8 cT], .string (ByteArray.mk #[1] ++ a ++ b)] w fun e w' => e = .returned (.string (ndv a b)) ∧ Below w.heap.size w w') := fun w t => rsum_ok gB cB gT cT gs cs _ (by omega) w t
  have HK : Hid (Pk W (W.alloc (Obj.cells #[.slice (some ⟨gB, 0, none⟩) 256 cB, .slice (some ⟨gT, 0, none⟩) 8 cT] 39)) gB cB gT cT gs cs W.heap.size) := pk_new cB cT hR
  clear hR
  generalize ndv a b = c at *
  go_enter Tryz.func37, Tryz.ntmps37
  go_wp2_with (go_at_call 24; refine (H.out _ HK.out.t).mono ?_; rintro e w1 ⟨rfl, hb1⟩)
  go_ret
  exact ⟨rfl, HK.out.d.trans (hb1.mono HK.out.d.size)⟩
/-- Digests of texts from the place o * 2^k on. -/
theorem lv_from (f : Nat → ByteArray) : ∀ k o j, lv (fun i => f (o * 2 ^ k + i)) k j = lv f k (o + j)
  | 0, o, j => by show lfv (f (o * 2 ^ 0 + j)) = lfv (f (o + j)); rw [Nat.pow_zero, Nat.mul_one]
  | k + 1, o, j => by
    show ndv (lv (fun i => f (o * 2 ^ (k + 1) + i)) k (2 * j)) (lv (fun i => f (o * 2 ^ (k + 1) + i)) k (2 * j + 1)) = ndv (lv f k (2 * (o + j))) (lv f k (2 * (o + j) + 1))
    have e : (fun i => f (o * 2 ^ (k + 1) + i)) = fun i => f ((2 * o) * 2 ^ k + i) := by
      funext i
      rw [Nat.pow_succ, ← Nat.mul_assoc, Nat.mul_comm 2 o, Nat.mul_assoc, Nat.mul_assoc, Nat.mul_comm 2 (2 ^ k)]
    rw [e, lv_from f k (2 * o) (2 * j), lv_from f k (2 * o) (2 * j + 1)]
    rw [show 2 * o + 2 * j = 2 * (o + j) by omega, show 2 * o + (2 * j + 1) = 2 * (o + j) + 1 by omega]
theorem lv_up (f : Nat → ByteArray) (k : Nat) : lv f (k + 1) 0 = ndv (lv f k 0) (lv (fun i => f (2 ^ k + i)) k 0) := by
  have := lv_from f k 1 0
  rw [Nat.one_mul] at this
  rw [this]
  rfl
theorem Txs.drew {w : World} {a : Option Addr} {n : Nat} {f : Nat → ByteArray} (h : Txs w a n f) : Txs w.drew a n f := ⟨h.cells⟩
theorem Txs.cut {w : World} {b off n m d : Nat} {f : Nat → ByteArray} (h : Txs w (some ⟨b, off, none⟩) n f) (hm : d + m ≤ n) : Txs w (some ⟨b, off + d, none⟩) m (fun i => f (d + i)) := ⟨fun i hi => by
  obtain ⟨b', o', e, h1, h2⟩ := h.cells (d + i) (by omega)
  obtain ⟨rfl, rfl⟩ : b = b' ∧ off = o' := by injection e with e; injection e with h1 h2; exact ⟨h1, h2⟩
  exact ⟨b, off + d, rfl, h1, by rw [Nat.add_assoc]; exact h2⟩⟩
set_option maxHeartbeats 4000000 in
set_option maxRecDepth 100000 in
theorem rroot_ok (gB cB gT cT : Nat) (gs cs : Nat → Nat) : ∀ (h b off n cap : Nat) (f : Nat → ByteArray) (W : World), h ≤ 12 → n = 2 ^ h → n ≤ cap → (∀ i, i < n → (f i).size ≤ 1000) → RTab W gB gT gs cs → Txs W (some ⟨b, off, none⟩) n f →
    Calls Tryz.prog 14 #[tbl gB cB gT cT, .slice (some ⟨b, off, none⟩) n cap] W fun e w' => e = .returned (.string (lv f h 0)) ∧ Below W.heap.size W w'
  | 0, b, off, n, cap, f, W, hh, hn, hc, hs, hR, hX => by
    obtain rfl : n = 1 := hn
    obtain ⟨b', o', e, hbl, c0⟩ := hX.cells 0 (by decide)
    obtain ⟨rfl, rfl⟩ : b = b' ∧ off = o' := by injection e with e; injection e with h1 h2; exact ⟨h1, h2⟩
    rw [Nat.add_zero] at c0
    have H : Hid (∀ w, RTab w gB gT gs cs → Calls Tryz.prog 17 #[.agg #[.slice (some ⟨gB, 0, none⟩) 256 cB, .slice (some ⟨gT, 0, none⟩) 8 cT], .string (f 0)] w fun e w' => e = .returned (.string (lv f 0 0)) ∧ Below w.heap.size w w') := fun w t => rleaf_ok gB cB gT cT gs cs _ (by have := hs 0 (by decide); omega) w t
    have K := pk_new cB cT hR
    have d0 := keepc (below_laid W (Obj.cells #[.slice (some ⟨gB, 0, none⟩) 256 cB, .slice (some ⟨gT, 0, none⟩) 8 cT] 39)) c0
    clear hR hX hs c0 hh hc e
    generalize lv f 0 0 = r at *
    generalize f 0 = s at *
    go_enter Tryz.func14, Tryz.ntmps14
    go_wp2_with fail
    have F0 : _ ∧ _ ∧ _ := ⟨K.c0, K.c1, d0⟩
    generalize W.alloc (Obj.cells #[.slice (some ⟨gB, 0, none⟩) 256 cB, .slice (some ⟨gT, 0, none⟩) 8 cT] 39) = w0 at *
    clear d0
    generalize hb : W.heap.size = q at *
    go_region_held3 (fun w => w.cell? ⟨q, 0, none⟩ = some (.slice (some ⟨gB, 0, none⟩) 256 cB) ∧ w.cell? ⟨q, 1, none⟩ = some (.slice (some ⟨gT, 0, none⟩) 8 cT) ∧ w.cell? ⟨b, off, none⟩ = some (.string s)) (go_keep) (first | (go_at_call 17; refine (H.out _ (by first | exact K.t | exact K.drew.t)).mono ?_; rintro e w' ⟨rfl, hb'⟩; have F' : w'.cell? ⟨q, 0, none⟩ = some (.slice (some ⟨gB, 0, none⟩) 256 cB) ∧ w'.cell? ⟨q, 1, none⟩ = some (.slice (some ⟨gT, 0, none⟩) 8 cT) ∧ w'.cell? ⟨b, off, none⟩ = some (.string s) := ⟨keepc hb' F0.1, keepc hb' F0.2.1, keepc hb' F0.2.2⟩; have K' := Pk.below (w' := w') (by first | exact K | exact K.drew) hb'; clear F0 K hb'; have K := K'; have F0 := F'; clear K' F'))
    go_wp2
    go_ret
    exact ⟨rfl, K.d⟩
  | h + 1, b, off, n, cap, f, W, hh, hn, hc, hs, hR, hX => by
    obtain ⟨m, hm⟩ : ∃ m, m = 2 ^ h := ⟨_, rfl⟩
    have hp : 0 < m := by rw [hm]; exact Nat.two_pow_pos h
    have hml : m ≤ 4096 := by rw [hm]; exact Nat.pow_le_pow_right (n := 2) (by decide) (show h ≤ 12 by omega)
    have hnm : n = 2 * m := by rw [hn, hm, Nat.pow_succ, Nat.mul_comm]
    have HA : Hid (∀ w, RTab w gB gT gs cs → Txs w (some ⟨b, off, none⟩) n f → Calls Tryz.prog 14 #[.agg #[.slice (some ⟨gB, 0, none⟩) 256 cB, .slice (some ⟨gT, 0, none⟩) 8 cT], .slice (some ⟨b, off, none⟩) m cap] w fun e w' => e = .returned (.string (lv f h 0)) ∧ Below w.heap.size w w') := fun w t x => by
      have := rroot_ok gB cB gT cT gs cs h b (off + 0) m cap (fun i => f (0 + i)) w (by omega) hm (by omega) (fun i hi => hs _ (by omega)) t (x.cut (by omega))
      simp only [Nat.add_zero, Nat.zero_add] at this
      exact this
    have HB : Hid (∀ w, RTab w gB gT gs cs → Txs w (some ⟨b, off, none⟩) n f → Calls Tryz.prog 14 #[.agg #[.slice (some ⟨gB, 0, none⟩) 256 cB, .slice (some ⟨gT, 0, none⟩) 8 cT], .slice (some ⟨b, off + m, none⟩) m (cap - m)] w fun e w' => e = .returned (.string (lv (fun i => f (m + i)) h 0)) ∧ Below w.heap.size w w') := fun w t x => rroot_ok gB cB gT cT gs cs h b (off + m) m (cap - m) (fun i => f (m + i)) w (by omega) hm (by omega) (fun i hi => hs _ (by omega)) t (x.cut (by omega))
    have HC : Hid (∀ w, RTab w gB gT gs cs → Calls Tryz.prog 37 #[.agg #[.slice (some ⟨gB, 0, none⟩) 256 cB, .slice (some ⟨gT, 0, none⟩) 8 cT], .string (lv f h 0), .string (lv (fun i => f (m + i)) h 0)] w fun e w' => e = .returned (.string (lv f (h + 1) 0)) ∧ Below w.heap.size w w') := fun w t => by
      rw [lv_up f h, ← hm]
      exact rnode_ok gB cB gT cT gs cs _ _ (by rw [lv_size]; decide) (by rw [lv_size]; decide) w t
    have K := pk_new cB cT hR
    have HX : Hid (Txs W (some ⟨b, off, none⟩) n f) := hX
    have n1 : ¬ (n : Int) = 1 := by omega
    have q1 : (n : Int).tdiv 2 = (m : Int) := by rw [Int.tdiv_eq_ediv_of_nonneg (by omega)]; omega
    have q2 : (n : Int) / 2 = (m : Int) := by omega
    have q3 : (m : Int) ≤ (n : Int) := by omega
    have q4 : (m : Int) ≤ (cap : Int) := by omega
    have q5 : (0 : Int) ≤ (m : Int) := by omega
    have q6 : n - m = m := by omega
    have q7 : ¬ cap = m := by omega
    have q8 : (n : Int) ≤ (cap : Int) := by omega
    have q9 : ¬ cap = 0 := by omega
    have q10 : ¬ 0 = cap := by omega
    have q11 : ¬ m = cap := by omega
    clear hR hX hs hm hnm hn hh hc
    generalize lv f h 0 = ra at *
    generalize lv (fun i => f (m + i)) h 0 = rb at *
    generalize lv f (h + 1) 0 = r at *
    go_enter Tryz.func14, Tryz.ntmps14
    go_wp2_with fail
    have HXK : Hid (Txs (W.alloc (Obj.cells #[.slice (some ⟨gB, 0, none⟩) 256 cB, .slice (some ⟨gT, 0, none⟩) 8 cT] 39)) (some ⟨b, off, none⟩) n f) := HX.out.below (below_laid _ _)
    have F0 : _ ∧ _ := ⟨K.c0, K.c1⟩
    generalize W.alloc (Obj.cells #[.slice (some ⟨gB, 0, none⟩) 256 cB, .slice (some ⟨gT, 0, none⟩) 8 cT] 39) = w0 at *
    clear HX
    generalize hb : W.heap.size = q at *
    have KX : Hid (Pk W w0 gB cB gT cT gs cs q ∧ Txs w0 (some ⟨b, off, none⟩) n f) := ⟨K, HXK.out⟩
    clear K HXK
    go_region_held3 (fun w => w.cell? ⟨q, 0, none⟩ = some (.slice (some ⟨gB, 0, none⟩) 256 cB) ∧ w.cell? ⟨q, 1, none⟩ = some (.slice (some ⟨gT, 0, none⟩) 8 cT)) (go_keep) (first | (go_at_call_of 14 (some (⟨b, off, none⟩ : Addr)); refine (HA.out _ (by first | exact KX.out.1.t | exact KX.out.1.drew.t) (by first | exact KX.out.2 | exact KX.out.2.drew)).mono ?_; rintro e w' ⟨rfl, hb'⟩; have KX' : Hid (Pk W w' gB cB gT cT gs cs q ∧ Txs w' (some ⟨b, off, none⟩) n f) := (by first | exact ⟨KX.out.1.below hb', KX.out.2.below hb'⟩ | exact ⟨KX.out.1.drew.below hb', KX.out.2.drew.below hb'⟩); have F' : w'.cell? ⟨q, 0, none⟩ = some (.slice (some ⟨gB, 0, none⟩) 256 cB) ∧ w'.cell? ⟨q, 1, none⟩ = some (.slice (some ⟨gT, 0, none⟩) 8 cT) := ⟨KX'.out.1.c0, KX'.out.1.c1⟩; clear F0 KX hb'; have KX := KX'; have F0 := F'; clear KX' F') | (go_at_call_of 14 (some (⟨b, off + m, none⟩ : Addr)); refine (HB.out _ (by first | exact KX.out.1.t | exact KX.out.1.drew.t) (by first | exact KX.out.2 | exact KX.out.2.drew)).mono ?_; rintro e w' ⟨rfl, hb'⟩; have KX' : Hid (Pk W w' gB cB gT cT gs cs q ∧ Txs w' (some ⟨b, off, none⟩) n f) := (by first | exact ⟨KX.out.1.below hb', KX.out.2.below hb'⟩ | exact ⟨KX.out.1.drew.below hb', KX.out.2.drew.below hb'⟩); have F' : w'.cell? ⟨q, 0, none⟩ = some (.slice (some ⟨gB, 0, none⟩) 256 cB) ∧ w'.cell? ⟨q, 1, none⟩ = some (.slice (some ⟨gT, 0, none⟩) 8 cT) := ⟨KX'.out.1.c0, KX'.out.1.c1⟩; clear F0 KX hb'; have KX := KX'; have F0 := F'; clear KX' F') | (go_at_call 37; refine (HC.out _ (by first | exact KX.out.1.t | exact KX.out.1.drew.t)).mono ?_; rintro e w' ⟨rfl, hb'⟩; have KX' : Hid (Pk W w' gB cB gT cT gs cs q ∧ Txs w' (some ⟨b, off, none⟩) n f) := (by first | exact ⟨KX.out.1.below hb', KX.out.2.below hb'⟩ | exact ⟨KX.out.1.drew.below hb', KX.out.2.drew.below hb'⟩); have F' : w'.cell? ⟨q, 0, none⟩ = some (.slice (some ⟨gB, 0, none⟩) 256 cB) ∧ w'.cell? ⟨q, 1, none⟩ = some (.slice (some ⟨gT, 0, none⟩) 8 cT) := ⟨KX'.out.1.c0, KX'.out.1.c1⟩; clear F0 KX hb'; have KX := KX'; have F0 := F'; clear KX' F'))
    go_wp2
    go_ret
    exact ⟨rfl, KX.out.1.d⟩
end Go.Proofs.YtfepgoddoohpbaaGreat
