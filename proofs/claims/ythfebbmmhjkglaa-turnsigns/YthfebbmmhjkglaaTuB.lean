/- The contracts of turn.Bits and steeplelaw18.same over the seat's translation. -/
import Derived.Test.YthfebbmmhjkglaaTuA
import Derived.Deep.OwnRows
namespace Go.Proofs.Ythfebbmmhjkglaa
open Go.RowKit

/-- Bools in memory, as a slice has them. -/
structure Bow (w : World) (a : Option Addr) (bs : List Bool) : Prop where
  cells : ∀ i, i < bs.length → ∃ b off : Nat, a = some ⟨b, off, none⟩ ∧ b < w.heap.size ∧ w.cell? ⟨b, off + i, none⟩ = some (.bool (bs.getD i false))
theorem Bow.below {w w' : World} {a : Option Addr} {bs : List Bool} (h : Bow w a bs) (hb : Below w.heap.size w w') : Bow w' a bs := ⟨fun i hi => by
  obtain ⟨b, off, h1, h2, h3⟩ := h.cells i hi
  exact ⟨b, off, h1, Nat.lt_of_lt_of_le h2 hb.size, keepc hb h3⟩⟩
/-- The bit p of turned words of n bits. -/
def tbit (n : Nat) (fr : Nat → Int) (bs : List Bool) (p : Nat) : Bool := if 0 ≤ fr (p % n) then bs.getD (p - p % n + (fr (p % n)).toNat) false else false
def trn (n : Nat) (fr : Nat → Int) (bs : List Bool) : List Bool := (List.range bs.length).map (tbit n fr bs)
theorem trn_len (n : Nat) (fr : Nat → Int) (bs : List Bool) : (trn n fr bs).length = bs.length := by simp [trn]
theorem trn_at (n : Nat) (fr : Nat → Int) (bs : List Bool) {p : Nat} (h : p < bs.length) : (trn n fr bs).getD p false = tbit n fr bs p := by simp [trn, List.getD, h]
theorem in_word {j L n f : Nat} (hj : j < L) (hL : L % n = 0) (hf : f < n) : j - j % n + f < L := by
  have h1 : j = n * (j / n) + j % n := (Nat.div_add_mod j n).symm
  have h2 : L = n * (L / n) := by have := (Nat.div_add_mod L n).symm; omega
  have h3 : j / n < L / n := by
    apply Nat.div_lt_of_lt_mul
    rw [← h2]; exact hj
  have h4 : n * (j / n + 1) ≤ n * (L / n) := Nat.mul_le_mul_left n h3
  rw [Nat.mul_add, Nat.mul_one, ← h2] at h4
  omega
theorem frI_lt {k w s i : Int} {n : Nat} (hn : pw w = n) (h : 0 ≤ frI k w s i) : frI k w s i < n := by
  by_cases hc : ftB k w s = true ∧ 0 ≤ i ∧ i < pw w
  · obtain ⟨hf, h1, h2⟩ := hc
    obtain ⟨_, ⟨h3, h4⟩, _⟩ := ftB_true hf
    rw [frI_yes ⟨hf, h1, h2⟩, hn] at *
    split at * <;> (try split at *) <;> (try split at *) <;> omega
  · rw [frI_no hc] at h; omega
theorem info_bool : ∃ i, Try.prog.info? 4 = some i ∧ i.zero = some (.bool false) ∧ i.size = 1 ∧ i.bytes = 1 := by
  have h : (Try.prog.info? 4).map (fun i => (i.zero, i.size, i.bytes)) = some (some (.bool false), 1, 1) := by kernel_rfl
  obtain ⟨i, hi, he⟩ := Option.map_eq_some_iff.1 h
  simp only [Prod.mk.injEq] at he
  exact ⟨i, hi, he.1, he.2.1, he.2.2⟩
theorem own_rowZ {w : World} {base : Nat} {T : TypeId} {g n : Nat} {z : Value} (h : w.ownsRow base T 1 (.slice (some ⟨g, 0, none⟩) n n) n (List.replicate n z)) : ∃ f, w.rowIs g T n f ∧ ∀ p, p < n → f p = z := by
  have hc := h
  rcases h.2 with ⟨h1, _⟩ | ⟨g', cap, cur, e, _, hg, _, _, hs, _⟩
  · injection h1 with h2; cases h2
  · injection e with e1 e2 e3
    obtain rfl : g = g' := by injection e1 with e4; injection e4
    subst e3
    have R : w.rowIs g T n (fun i => cur.getD i undef) := ⟨cur, hg, by omega, fun i hi => by
      show cur[i]? = some (cur.getD i undef)
      rw [Array.getD_eq_getD_getElem?, Array.getElem?_eq_getElem (by omega)]; rfl⟩
    refine ⟨_, R, fun p hp => ?_⟩
    have c1 := R.cell hp
    have c2 := hc.cellAt p (by omega)
    rw [c1, List.getElem?_replicate, if_pos hp] at c2
    exact Option.some.inj c2
theorem row_bow {w : World} {g : Nat} {T : TypeId} {f : Nat → Value} {bs : List Bool} (R : w.rowIs g T bs.length f) (F : ∀ p, p < bs.length → f p = .bool (bs.getD p false)) : Bow w (some ⟨g, 0, none⟩) bs := ⟨fun i hi => by
  have c := R.cell hi
  rw [F i hi] at c
  exact ⟨g, 0, rfl, R.lt, by rw [Nat.zero_add]; exact c⟩⟩
theorem Hid.mkT {p : Prop} (h : p) : Hid p := h
theorem tbits_arg (k w s : Int) (hf : ftB k w s = false) (a : Option Addr) (cap len : Nat) (W : World) :
    Calls Try.prog 10 #[.int .i64 k, .int .i64 w, .int .i64 s, .slice a len cap] W fun e w' => e = .returned (.tuple #[.slice none 0 0, .int .i64 1]) ∧ Below W.heap.size W w' := by
  have HF : Hid (Ret 13 #[.int .i64 k, .int .i64 w, .int .i64 s] (.bool false)) := by have := tfits k w s; rw [hf] at this; exact this
  clear hf
  go_enter Try.func10, Try.ntmps10
  go_wp2_with (go_at_call 13; refine (HF.out.go _).mono ?_; rintro e w1 ⟨rfl, hb1⟩)
  refine bodyPost_ret (v := .tuple #[.slice none 0 0, .int .i64 1]) (by simp [results, Try.results10, go_sem, *]) rfl ⟨rfl, hb1⟩
theorem tbits_size (k w s : Int) (hf : ftB k w s = true) (n : Nat) (hn : pw w = n) (a : Option Addr) (cap len : Nat) (hq : ¬ len % n = 0) (W : World) :
    Calls Try.prog 10 #[.int .i64 k, .int .i64 w, .int .i64 s, .slice a len cap] W fun e w' => e = .returned (.tuple #[.slice none 0 0, .int .i64 6]) ∧ Below W.heap.size W w' := by
  have HF : Hid (Ret 13 #[.int .i64 k, .int .i64 w, .int .i64 s] (.bool true)) := by have := tfits k w s; rw [hf] at this; exact this
  obtain ⟨⟨h1, h2⟩, _⟩ := ftB_true hf
  have hp := pw_wrap h2
  have hn1 := pw_le h2
  rw [hn] at hp hn1
  have hn0 : ¬ n = 0 := by omega
  have hn2 : ¬ (n : Int) = 0 := by omega
  obtain ⟨r, hr⟩ : ∃ r, r = len % n := ⟨_, rfl⟩
  have e1 : (len : Int).tmod (n : Int) = (r : Int) := by rw [hr, Int.tmod_eq_emod_of_nonneg (by omega)]; simp
  have e2 : (len : Int) % (n : Int) = (r : Int) := by rw [hr]; simp
  have e3 : ¬ (r : Int) = 0 := by omega
  clear hf hn hq hr
  go_enter Try.func10, Try.ntmps10
  go_wp2_with (go_at_call 13; refine (HF.out.go _).mono ?_; rintro e w1 ⟨rfl, hb1⟩)
  refine bodyPost_ret (v := .tuple #[.slice none 0 0, .int .i64 6]) (by simp [results, Try.results10, go_sem, *]) rfl ⟨rfl, hb1⟩
set_option maxHeartbeats 4000000 in
set_option maxRecDepth 100000 in
theorem tbits_ok (k w s : Int) (hf : ftB k w s = true) (n : Nat) (hn : pw w = n) (a : Option Addr) (cap : Nat) (bs : List Bool) (hq : bs.length % n = 0) (hm : bs.length ≤ 1000) (W : World) (hr : Bow W a bs) :
    Calls Try.prog 10 #[.int .i64 k, .int .i64 w, .int .i64 s, .slice a bs.length cap] W fun e w' => ∃ g, e = .returned (.tuple #[.slice (some ⟨g, 0, none⟩) bs.length bs.length, .int .i64 0]) ∧ Bow w' (some ⟨g, 0, none⟩) (trn n (fun i : Nat => frI k w s (i : Int)) bs) ∧ Below W.heap.size W w' := by
  have HF : Hid (Ret 13 #[.int .i64 k, .int .i64 w, .int .i64 s] (.bool true)) := by have := tfits k w s; rw [hf] at this; exact this
  have HT : Hid (∀ i : Nat, i < 1000 → Ret 11 #[.int .i64 k, .int .i64 w, .int .i64 s, .int .i64 (i : Int)] (.int .i64 (frI k w s (i : Int)))) := fun i _ => tfrom k w s i
  have HL : Hid (∀ i : Nat, 0 ≤ frI k w s (i : Int) → frI k w s (i : Int) < n) := fun i h => frI_lt hn h
  obtain ⟨fr, hfr⟩ : ∃ fr : Nat → Int, fr = fun i : Nat => frI k w s (i : Int) := ⟨_, rfl⟩
  rw [← hfr]
  have HT' : Hid (∀ i : Nat, i < 1000 → Ret 11 #[.int .i64 k, .int .i64 w, .int .i64 s, .int .i64 (i : Int)] (.int .i64 (fr i))) := by subst hfr; exact HT
  have HL' : Hid (∀ i : Nat, 0 ≤ fr i → fr i < n) := by subst hfr; exact HL
  obtain ⟨⟨h1, h2⟩, _⟩ := ftB_true hf
  have hp := pw_wrap h2
  have hn1 := pw_le h2
  rw [hn] at hp hn1
  have hn0 : ¬ n = 0 := by omega
  have hn2 : ¬ (n : Int) = 0 := by omega
  have e1 : (bs.length : Int).tmod (n : Int) = 0 := by rw [Int.tmod_eq_emod_of_nonneg (by omega)]; omega
  have e2 : (bs.length : Int) % (n : Int) = 0 := by omega
  obtain ⟨i0, hi, hz0, hz1, hz2⟩ := info_bool
  have HN : Hid (Try.prog.info? 4 = some i0 ∧ i0.zero = some (.bool false) ∧ i0.size = 1 ∧ i0.bytes = 1) := ⟨hi, hz0, hz1, hz2⟩
  have HR : Hid (Bow W a bs) := hr
  have HQ : Hid (bs.length % n = 0) := hq
  clear hf hn hfr HT HL hi hz0 hz1 hz2 hr hq
  go_enter Try.func10, Try.ntmps10
  go_wp2_with (first | (go_at_call 13; refine (HF.out.go _).mono ?_; rintro e w1 ⟨rfl, hb1⟩; have D1 : Hid (Below W.heap.size W w1) := hb1; clear hb1) | (at_make; refine wpList_make_full _ rfl _ _ 24 rfl 0 4 i0 (.bool false) 1 Try.underlying24 HN.out.1 HN.out.2.1 HN.out.2.2.1 .i64 .i64 _ _ bs.length rfl rfl rfl rfl (by rw [HN.out.2.2.2]; omega) (by simp only [maxLen]; omega) (Nat.zero_le _) ?_; intro w2 own2 hgr2))
  have D2 : Hid (Below W.heap.size W w2) := D1.out.grown hgr2 D1.out.size (fun k hk => by cases hk)
  rw [Nat.mul_one, show (Value.bool false).cells = #[Value.bool false] from rfl, toList_madeCells_one] at own2
  obtain ⟨f0, R0, Z0⟩ := own_rowZ own2
  have hg : W.heap.size ≤ w1.heap.size := D1.out.size
  have HZ0 : Hid (∀ p, p < bs.length → f0 p = .bool false) := Z0
  clear own2 hgr2 HN D1 Z0
  generalize w1.heap.size = g at *
  go_loopw [32] (fun u wr => ∃ (j : Nat) (f : Nat → Value), j ≤ bs.length ∧ u = .int .i64 j ∧ wr.rowIs g 4 bs.length f ∧ Hid (∀ p, p < bs.length → f p = .bool (if p < j then tbit n fr bs p else false)) ∧ Below W.heap.size W wr) (fun u _ => bs.length - (intOf u).toNat)
  case atStart => exact ⟨0, f0, Nat.zero_le _, rfl, R0, (fun p hp => by rw [HZ0.out p hp, if_neg (by omega)]), D2.out⟩
  case round =>
    obtain ⟨j, f, hj, rfl, hRr, HF2, hD⟩ := hrel
    clear R0 D2 HZ0
    have HD : Hid (wr.rowIs g 4 bs.length f ∧ Below W.heap.size W wr) := ⟨hRr, hD⟩
    clear hRr hD
    by_cases hlt : j < bs.length
    · obtain ⟨i, hi⟩ : ∃ i, i = j % n := ⟨_, rfl⟩
      have hin : i < n := by rw [hi]; exact Nat.mod_lt _ (by omega)
      have m1 : (j : Int).tmod (n : Int) = (i : Int) := by rw [hi, Int.tmod_eq_emod_of_nonneg (by omega)]; simp
      have m2 : (j : Int) % (n : Int) = (i : Int) := by rw [hi]; simp
      have H1 := Hid.mkT (HT'.out i (by omega))
      have HB : Hid (tbit n fr bs j = if 0 ≤ fr i then bs.getD (j - i + (fr i).toNat) false else false) := by show _ = _; unfold tbit; rw [← hi]
      have HI : Hid (j - i + 0 ≤ j ∧ ∀ f, f < n → j - i + f < bs.length) := ⟨by omega, fun f hf => by rw [hi]; exact in_word hlt HQ.out hf⟩
      have hij : i ≤ j := by rw [hi]; exact Nat.mod_le _ _
      have HL2 := Hid.mkT (HL'.out i)
      have b1 : (j : Int) < (bs.length : Int) := by omega
      have b2 : (0 : Int) ≤ (j : Int) := by omega
      clear hi HT' HL' HQ
      generalize fr i = z at *
      by_cases hz : 0 ≤ z
      · have hzn := HL2.out hz
        obtain ⟨q, rfl⟩ : ∃ q : Nat, z = (q : Int) := ⟨z.toNat, by omega⟩
        rw [if_pos hz, Int.toNat_natCast] at HB
        have hqn := HI.out.2 q (by omega)
        obtain ⟨c, hc⟩ : ∃ c, c = j - i + q := ⟨_, rfl⟩
        rw [← hc] at HB hqn
        obtain ⟨b0, off, rfl, hb0, c0⟩ := HR.out.cells c hqn
        have C0 := keepc HD.out.2 c0
        have e3 : IntKind.i64.wrap ((j : Int) - (i : Int)) = (j : Int) - (i : Int) := by rw [IntKind.wrap_i64]; omega
        have e4 : IntKind.i64.wrap ((j : Int) - (i : Int) + (q : Int)) = (c : Int) := by rw [IntKind.wrap_i64]; omega
        have e5 : (j : Int) - (i : Int) + (q : Int) = (c : Int) := by omega
        have b3 : (c : Int) < (bs.length : Int) := by omega
        have b4 : (0 : Int) ≤ (c : Int) := by omega
        have HV : Hid (tbit n fr bs j = bs.getD c false) := HB
        clear HB HL2 HI hc c0 hzn HR
        generalize bs.getD c false = x at *
        have HW : Hid (b0 < W.heap.size) := hb0
        clear hb0
        go_wp2_with (go_at_call 11; refine (H1.out.go _).mono ?_; rintro e w3 ⟨rfl, hb3⟩; have X : Hid (w3.rowIs g 4 bs.length f ∧ Below W.heap.size W w3) := ⟨HD.out.1.of_block (hb3.block _ HD.out.1.lt), HD.out.2.trans (hb3.mono HD.out.2.size)⟩; have C1 := keepc hb3 C0; clear hb3 C0 HD; have y1 := X.out.1.cell (i := j) hlt; have y0 := X.out.1.frozen j)
        refine ⟨⟨j + 1, _, hlt, by simp, X.out.1.set j _, fun p hp => ?_, X.out.2.setCell hg _⟩, by simp [intOf]; omega⟩
        by_cases hpj : p = j
        · subst hpj
          rw [if_pos rfl, if_pos (by omega), HV.out]
        · rw [if_neg hpj, HF2.out p hp]
          by_cases hp2 : p < j
          · rw [if_pos hp2, if_pos (by omega)]
          · rw [if_neg hp2, if_neg (by omega)]
      · rw [if_neg hz] at HB
        have hz2 : z < 0 := by omega
        clear HL2 HI HR
        go_wp2_with (go_at_call 11; refine (H1.out.go _).mono ?_; rintro e w3 ⟨rfl, hb3⟩; have X : Hid (w3.rowIs g 4 bs.length f ∧ Below W.heap.size W w3) := ⟨HD.out.1.of_block (hb3.block _ HD.out.1.lt), HD.out.2.trans (hb3.mono HD.out.2.size)⟩; clear hb3 HD)
        refine ⟨⟨j + 1, f, hlt, by simp, X.out.1, fun p hp => ?_, X.out.2⟩, by simp [intOf]; omega⟩
        rw [HF2.out p hp]
        by_cases hpj : p = j
        · subst hpj
          rw [if_neg (by omega), if_pos (by omega), HB.out]
        · by_cases hp2 : p < j
          · rw [if_pos hp2, if_pos (by omega)]
          · rw [if_neg hp2, if_neg (by omega)]
    · obtain rfl : j = bs.length := by omega
      have HE : Hid (Bow wr (some ⟨g, 0, none⟩) (trn n fr bs)) := by
        refine row_bow (by rw [trn_len]; exact HD.out.1) fun p hp => ?_
        rw [trn_len] at hp
        rw [HF2.out p hp, if_pos hp, trn_at n fr bs hp]
      have HD3 : Hid (Below W.heap.size W wr) := HD.out.2
      clear HF2 HD HR HL' HT' HQ
      go_wp2
      refine bodyPost_ret (v := .tuple #[.slice (some ⟨g, 0, none⟩) bs.length bs.length, .int .i64 0]) (by simp [results, Try.results10, go_sem, *]) rfl ⟨g, rfl, HE.out, HD3.out⟩
end Go.Proofs.Ythfebbmmhjkglaa
