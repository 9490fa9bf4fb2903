/- The contracts of packv.isLevel, allOf and Right over the seat's translation. -/
import Derived.Test.YtcejppibcemdeaaPvA
import Derived.Test.YtcejppibcemdeaaPWvN
namespace Go.Proofs.Ytcejppibcemdeaa
open Go.RowKit
open Cb Rg
namespace Pv

theorem plev_yes (l : Int) (h : 0 ≤ l ∧ l ≤ 7) : Ret 49 #[.int .i64 l] (.bool true) := by
  intro W
  obtain ⟨h1, h2⟩ := h
  go_enter Try.func49, Try.ntmps49
  go_wp2
  go_ret
  exact ⟨rfl, by first | exact Below.refl _ _ | go_grown⟩
theorem plev_no (l : Int) (h : ¬ (0 ≤ l ∧ l ≤ 7)) : Ret 49 #[.int .i64 l] (.bool false) := by
  intro W
  rcases Int.lt_or_le l 0 with h1 | h1
  · have h2 : ¬ 0 ≤ l := by omega
    go_enter Try.func49, Try.ntmps49
    go_wp2
    go_ret
    exact ⟨rfl, by first | exact Below.refl _ _ | go_grown⟩
  · have h2 : ¬ l ≤ 7 := by omega
    go_enter Try.func49, Try.ntmps49
    go_wp2
    go_ret
    exact ⟨rfl, by first | exact Below.refl _ _ | go_grown⟩
theorem pall_any (l : Int) (a : Option Addr) (cap : Nat) (es : List (Nat × Nat)) (hes : ltE es) (W : World) (hr : ERow W a es) (h10 : es.length ≤ 100000) :
    Calls Try.prog 50 #[.int .i64 l, .slice a es.length cap] W fun e w' => e = .returned (.bool (es.all fun e => ofB l (e.1 : Int) (e.2 : Int))) ∧ Below W.heap.size W w' := by
  have HR : Hid (ERow W a es) := hr
  have HO : Hid (∀ j : Nat, Ret 33 #[.int .i64 l, .agg #[.int .u64 ((es.getD j (0, 0)).1 : Int), .int .u64 ((es.getD j (0, 0)).2 : Int)]] (.bool (ofB l ((es.getD j (0, 0)).1 : Int) ((es.getD j (0, 0)).2 : Int)))) := fun j => of_ret l _ _ (hes.at j).2
  clear hr hes
  go_enter Try.func50, Try.ntmps50
  go_wp2_with fail
  go_loopw [9] (fun u wr => ∃ j : Nat, j ≤ es.length ∧ u = .int .i64 j ∧ Hid ((es.take j).all (fun e => ofB l (e.1 : Int) (e.2 : Int)) = true) ∧ Below W.heap.size W wr) (fun u _ => es.length - (intOf u).toNat)
  case atStart => exact ⟨0, Nat.zero_le _, rfl, (by rfl), Below.refl _ _⟩
  case round =>
    obtain ⟨j, hj, rfl, HT, hD⟩ := hrel
    by_cases hlt : j < es.length
    · obtain ⟨b, off, rfl, hb, c1, c0⟩ := HR.out.cells j hlt
      have d1 : wr.cell? ⟨b, off + j * 2, none⟩ = some (.int .u64 ((es.getD j (0, 0)).1 : Nat)) := by rw [hD.cell (p := ⟨b, off + j * 2, none⟩) hb]; exact c1
      have d0 : wr.cell? ⟨b, off + j * 2 + 1, none⟩ = some (.int .u64 ((es.getD j (0, 0)).2 : Nat)) := by rw [hD.cell (p := ⟨b, off + j * 2 + 1, none⟩) hb]; exact c0
      have H1 := HO.out j
      have HD : Hid (Below W.heap.size W wr) := hD
      have HS : Hid (es.take (j + 1) = es.take j ++ [es.getD j (0, 0)]) := take_sn es j hlt
      have HM : Hid (es.getD j (0, 0) ∈ es) := by show _ ∈ _; rw [show es.getD j (0, 0) = es[j] by simp [hlt]]; exact List.getElem_mem hlt
      clear hD c1 c0 HR HO
      generalize es.getD j (0, 0) = x at *
      rcases hB : ofB l (x.1 : Int) (x.2 : Int) with _ | _
      · rw [hB] at H1
        go_wp2_with fail
        refine (H1.go _).mono ?_
        rintro e w4 ⟨rfl, hb4⟩
        have HD4 : Hid (Below W.heap.size W w4) := (HD.out.alloc HD.out.size _).trans (hb4.mono (by have := HD.out.size; simp; omega))
        clear hb4 d1 d0 HD
        go_wp2
        go_ret
        refine ⟨?_, HD4.out⟩
        rw [show (es.all fun e => ofB l (e.1 : Int) (e.2 : Int)) = false from by
          rw [List.all_eq_false]; exact ⟨x, HM.out, by rw [hB]; decide⟩]
        rfl
      · rw [hB] at H1
        go_wp2_with fail
        refine (H1.go _).mono ?_
        rintro e w4 ⟨rfl, hb4⟩
        have HD4 : Hid (Below W.heap.size W w4) := (HD.out.alloc HD.out.size _).trans (hb4.mono (by have := HD.out.size; simp; omega))
        clear hb4 d1 d0 HD
        go_wp2
        exact ⟨⟨j + 1, hlt, by simp, (by show _ = _; rw [HS.out, List.all_append, HT.out]; simp [hB]), HD4.out⟩, by simp [intOf]; omega⟩
    · have HD : Hid (Below W.heap.size W wr) := hD
      obtain rfl : j = es.length := by omega
      clear hD
      go_wp2
      go_ret
      refine ⟨?_, HD.out⟩
      have := HT.out
      rw [List.take_of_length_le (Nat.le_refl _)] at this
      rw [this]
      rfl
def rightv (N : Nat) (x : Nat × Nat) : List (Nat × Nat) := (List.range N).map fun u => if u = 0 then x else (0, 0)
theorem rightv_len (N : Nat) (x : Nat × Nat) : (rightv N x).length = N := by simp [rightv]
theorem rightv_at (N : Nat) (x : Nat × Nat) (c : Nat) (hc : c < N) : el (rightv N x) c = if c = 0 then x else (0, 0) := by simp [rightv, el, List.getD, hc]
set_option maxHeartbeats 2000000 in
theorem right_no (l : Int) (x : Nat × Nat) (lx : lt2 x) (ox : ofB l (x.1 : Int) (x.2 : Int) = false) : Ret 9 #[.int .i64 l, .agg #[.int .u64 (x.1 : Int), .int .u64 (x.2 : Int)]] (.slice none 0 0) := by
  intro W
  have HO := hidT (of_ret l x.1 x.2 lx.2)
  rw [ox] at HO
  go_enter Try.func9, Try.ntmps9
  go_wp2_with (go_at_call 33; refine (HO.out.go _).mono ?_; rintro e w1 ⟨rfl, hb1⟩)
  go_ret
  exact ⟨rfl, ((Below.refl _ _).alloc (Nat.le_refl _) _).trans (hb1.mono (by simp))⟩
end Pv
end Go.Proofs.Ytcejppibcemdeaa

/- The contracts of packv.isLevel, allOf and Right over the seat's translation. -/
namespace Go.Proofs.Ytcejppibcemdeaa
open Go.RowKit
open Cb Rg
namespace Pv

set_option maxHeartbeats 4000000 in
set_option maxRecDepth 100000 in
theorem right_ok (k : Nat) (hk : k < 8) (N : Nat) (hN : N = 2 ^ k) (x : Nat × Nat) (lx : lt2 x) (ox : ofB (k : Int) (x.1 : Int) (x.2 : Int) = true) (W : World) :
    Calls Try.prog 9 #[.int .i64 (k : Int), .agg #[.int .u64 (x.1 : Int), .int .u64 (x.2 : Int)]] W fun e w' => ∃ p, e = .returned (.slice (some ⟨p, 0, none⟩) N N) ∧ ERow w' (some ⟨p, 0, none⟩) (rightv N x) ∧ W.heap.size ≤ p ∧ Below W.heap.size W w' := by
  have HO := hidT (of_ret (k : Int) x.1 x.2 lx.2)
  rw [ox] at HO
  have k0 : ¬ (k : Int) < 0 := by omega
  have k1 : (0 : Int) ≤ (k : Int) := by omega
  have k2 : (k : Int) < 64 := by omega
  have hsh : wrap64 ((2 : Int) ^ k) = (N : Int) := by
    rw [hN]
    have : ∀ k, k < 8 → wrap64 ((2 : Int) ^ k) = ((2 ^ k : Nat) : Int) := by decide +kernel
    exact this k hk
  have n0 : 0 < N := by rw [hN]; exact Nat.two_pow_pos k
  have n1 : N ≤ 128 := by rw [hN]; exact Nat.le_trans (Nat.pow_le_pow_right (by decide) (show k ≤ 7 by omega)) (by decide)
  obtain ⟨i0, hi, hz0, hz1, hz2⟩ := info_elem
  have HI := hidT (show Try.prog.info? 24 = some i0 ∧ i0.zero = some (.agg #[.int .u64 0, .int .u64 0]) ∧ i0.size = 2 ∧ i0.bytes = 16 from ⟨hi, hz0, hz1, hz2⟩)
  have n2 : (0 : Int) < (N : Int) := by omega
  clear hi hz0 hz1 hz2 ox lx hN
  go_enter Try.func9, Try.ntmps9
  go_wp2_with (first
      | (go_at_call 33; refine (HO.out.go _).mono ?_; rintro e w1 ⟨rfl, hb1⟩; have f1 : w1.cell? ⟨W.heap.size, 0, none⟩ = some (.int .u64 (x.1 : Int)) := keepc hb1 (by simp [go_sem]); have f0 : w1.cell? ⟨W.heap.size, 1, none⟩ = some (.int .u64 (x.2 : Int)) := keepc hb1 (by simp [go_sem]); have D1 := hidT (((Below.refl W.heap.size W).alloc (Nat.le_refl _) _).trans (hb1.mono (by simp))); clear hb1)
      | (at_make; rw [hsh]; refine wpList_make_full _ rfl _ _ 26 rfl 0 24 i0 (.agg #[.int .u64 0, .int .u64 0]) 2 Try.underlying26 HI.out.1 HI.out.2.1 HI.out.2.2.1 .i64 .i64 _ _ N rfl rfl rfl rfl (by rw [HI.out.2.2.2]; omega) (by simp only [maxLen]; omega) (Nat.zero_le _) ?_; intro w3 own3 hgr3; have K3 := hidT (Tn.start own3 hgr3 (fun _ => (0, 0)) (fun c _ => rfl)); clear own3 hgr3; have g1 := keepc K3.out.d f1; have g0 := keepc K3.out.d f0; clear f1 f0; obtain ⟨r1, r0, z1, z0⟩ := K3.out.facts 0 n0; simp only [Nat.zero_mul, Nat.zero_add] at r1 r0 z1 z0))
  go_ret
  have K4 := K3.out.put 0 x (fun c => if c = 0 then x else (0, 0)) (fun c _ => rfl)
  simp only [Nat.zero_mul, Nat.zero_add] at K4
  exact ⟨_, rfl, K4.erow (rightv_len N x) (fun c hc => rightv_at N x c hc), D1.out.size, D1.out.trans (K4.d.mono D1.out.size)⟩
end Pv
end Go.Proofs.Ytcejppibcemdeaa

/- Tensors, pure: what packv.timesX and packv.product make of rows. -/
namespace Go.Proofs.Ytcejppibcemdeaa
open Go.RowKit
open Cb Rg
open Tw (pm)
namespace Pv

theorem addv_el (n N : Nat) (rs : List (List (Nat × Nat))) (c : Nat) (hc : c < N) : el (addv n N rs) c = xs n fun k => el (rs.getD k []) c := by simp [addv, el, List.getD, hc]
theorem lt_addv {n N : Nat} {rs : List (List (Nat × Nat))} (h : ∀ i, i < n → ltE (rs.getD i [])) : ltE (addv n N rs) := fun e he => by
  obtain ⟨c, _, rfl⟩ := List.mem_map.1 he
  exact lt_xsn fun i hi => ltE_el (h i hi) c
theorem of_addv {m : Nat} (hm : m < 8) {n N : Nat} {rs : List (List (Nat × Nat))} (h : ∀ i, i < n → ofT m (rs.getD i [])) : ofT m (addv n N rs) := fun e he => by
  obtain ⟨c, _, rfl⟩ := List.mem_map.1 he
  exact of_xs hm n fun i hi => (h i hi).el hm c
theorem lt_take {t : List (Nat × Nat)} (h : ltE t) (n : Nat) : ltE (t.take n) := fun e he => h e (List.mem_of_mem_take he)
theorem lt_drop {t : List (Nat × Nat)} (h : ltE t) (n : Nat) : ltE (t.drop n) := fun e he => h e (List.mem_of_mem_drop he)
theorem of_take {m : Nat} {t : List (Nat × Nat)} (h : ofT m t) (n : Nat) : ofT m (t.take n) := fun e he => h e (List.mem_of_mem_take he)
theorem of_drop {m : Nat} {t : List (Nat × Nat)} (h : ofT m t) (n : Nat) : ofT m (t.drop n) := fun e he => h e (List.mem_of_mem_drop he)
theorem lt_app {s t : List (Nat × Nat)} (h : ltE s) (k : ltE t) : ltE (s ++ t) := fun e he => by
  rcases List.mem_append.1 he with he | he
  · exact h e he
  · exact k e he
theorem of_app {m : Nat} {s t : List (Nat × Nat)} (h : ofT m s) (k : ofT m t) : ofT m (s ++ t) := fun e he => by
  rcases List.mem_append.1 he with he | he
  · exact h e he
  · exact k e he
/-- A tensor times the generator. -/
def txL : Nat → List (Nat × Nat) → List (Nat × Nat)
  | 0, t => t
  | k + 1, t => addv 1 (2 ^ k) [t.drop (2 ^ k)] ++ addv 2 (2 ^ k) [t.take (2 ^ k), txL k (t.drop (2 ^ k))]
theorem len_drop {k : Nat} {t : List (Nat × Nat)} (h : t.length = 2 ^ (k + 1)) : (t.drop (2 ^ k)).length = 2 ^ k := by
  rw [List.length_drop, h, Nat.pow_succ]; omega
theorem len_take {k : Nat} {t : List (Nat × Nat)} (h : t.length = 2 ^ (k + 1)) : (t.take (2 ^ k)).length = 2 ^ k := by
  rw [List.length_take, h, Nat.pow_succ]; omega
theorem txL_len : ∀ (k : Nat) (t : List (Nat × Nat)), t.length = 2 ^ k → (txL k t).length = 2 ^ k
  | 0, t, h => h
  | k + 1, t, h => by
    unfold txL
    rw [List.length_append, addv_len, addv_len, Nat.pow_succ]
    omega
theorem lt_txL : ∀ (k : Nat) (t : List (Nat × Nat)), ltE t → ltE (txL k t)
  | 0, t, h => h
  | k + 1, t, h => by
    unfold txL
    refine lt_app (lt_addv fun i hi => ?_) (lt_addv fun i hi => ?_)
    · obtain rfl : i = 0 := by omega
      exact lt_drop h _
    · match i, hi with
      | 0, _ => exact lt_take h _
      | 1, _ => exact lt_txL k _ (lt_drop h _)
theorem of_txL {m : Nat} (hm : m < 8) : ∀ (k : Nat) (t : List (Nat × Nat)), ofT m t → ofT m (txL k t)
  | 0, t, h => h
  | k + 1, t, h => by
    unfold txL
    refine of_app (of_addv hm fun i hi => ?_) (of_addv hm fun i hi => ?_)
    · obtain rfl : i = 0 := by omega
      exact of_drop h _
    · match i, hi with
      | 0, _ => exact of_take h _
      | 1, _ => exact of_txL hm k _ (of_drop h _)
/-- A product of tensors. -/
def prL : Nat → List (Nat × Nat) → List (Nat × Nat) → List (Nat × Nat)
  | 0, s, t => [pm (el s 0) (el t 0)]
  | k + 1, s, t => addv 2 (2 ^ k) [prL k (s.drop (2 ^ k)) (t.drop (2 ^ k)), prL k (s.take (2 ^ k)) (t.take (2 ^ k))] ++
    addv 4 (2 ^ k) [prL k (addv 2 (2 ^ k) [s.take (2 ^ k), s.drop (2 ^ k)]) (addv 2 (2 ^ k) [t.take (2 ^ k), t.drop (2 ^ k)]), prL k (s.drop (2 ^ k)) (t.drop (2 ^ k)), prL k (s.take (2 ^ k)) (t.take (2 ^ k)), txL k (prL k (s.drop (2 ^ k)) (t.drop (2 ^ k)))]
theorem prL_len : ∀ (k : Nat) (s t : List (Nat × Nat)), (prL k s t).length = 2 ^ k
  | 0, s, t => rfl
  | k + 1, s, t => by
    unfold prL
    rw [List.length_append, addv_len, addv_len, Nat.pow_succ]
    omega
theorem lt_prL : ∀ (k : Nat) (s t : List (Nat × Nat)), ltE (prL k s t)
  | 0, s, t => fun e he => by
    obtain rfl : e = pm (el s 0) (el t 0) := by simpa [prL] using he
    exact lt_pm _ _
  | k + 1, s, t => by
    unfold prL
    refine lt_app (lt_addv fun i hi => ?_) (lt_addv fun i hi => ?_)
    · match i, hi with
      | 0, _ => exact lt_prL k _ _
      | 1, _ => exact lt_prL k _ _
    · match i, hi with
      | 0, _ => exact lt_prL k _ _
      | 1, _ => exact lt_prL k _ _
      | 2, _ => exact lt_prL k _ _
      | 3, _ => exact lt_txL k _ (lt_prL k _ _)
theorem of_two {m : Nat} (hm : m < 8) {N : Nat} {s t : List (Nat × Nat)} (h : ofT m s) (k : ofT m t) : ofT m (addv 2 N [s, t]) := of_addv hm fun i hi => by
  match i, hi with
  | 0, _ => exact h
  | 1, _ => exact k
theorem lt_two {N : Nat} {s t : List (Nat × Nat)} (h : ltE s) (k : ltE t) : ltE (addv 2 N [s, t]) := lt_addv fun i hi => by
  match i, hi with
  | 0, _ => exact h
  | 1, _ => exact k
theorem of_prL {m : Nat} (hm : m < 8) : ∀ (k : Nat) (s t : List (Nat × Nat)), ltE s → ltE t → ofT m s → ofT m t → ofT m (prL k s t)
  | 0, s, t, l1, l2, h1, h2 => fun e he => by
    obtain rfl : e = pm (el s 0) (el t 0) := by simpa [prL] using he
    exact of_pm hm (h1.el hm 0) (h2.el hm 0)
  | k + 1, s, t, l1, l2, h1, h2 => by
    have a := of_prL hm k _ _ (lt_drop l1 (2 ^ k)) (lt_drop l2 (2 ^ k)) (of_drop h1 (2 ^ k)) (of_drop h2 (2 ^ k))
    have b := of_prL hm k _ _ (lt_take l1 (2 ^ k)) (lt_take l2 (2 ^ k)) (of_take h1 (2 ^ k)) (of_take h2 (2 ^ k))
    unfold prL
    refine of_app (of_two hm a b) (of_addv hm fun i hi => ?_)
    match i, hi with
    | 0, _ => exact of_prL hm k _ _ (lt_two (lt_take l1 _) (lt_drop l1 _)) (lt_two (lt_take l2 _) (lt_drop l2 _)) (of_two hm (of_take h1 _) (of_drop h1 _)) (of_two hm (of_take h2 _) (of_drop h2 _))
    | 1, _ => exact a
    | 2, _ => exact b
    | 3, _ => exact of_txL hm k _ a
end Pv
end Go.Proofs.Ytcejppibcemdeaa
