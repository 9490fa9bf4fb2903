/- The contracts of packv.Times and Add, and of steeplelaw19's awake, over the seat's translation. -/
import Derived.Test.YtcejppibcemdeaaPvI
namespace Go.Proofs.Ytcejppibcemdeaa
open Go.RowKit
open Cb Rg
open Tw (pm)
namespace Pv

theorem szB_two {N : Nat} {s t : List (Nat × Nat)} (hs : s.length = N) (ht : t.length = N) : szB N [s, t] = true := by simp [szB, hs, ht]
theorem alB_of {k : Nat} {rs : List (List (Nat × Nat))} (h : ∀ r ∈ rs, ofT k r) : alB k rs = true := by
  unfold alB
  rw [List.all_eq_true]
  intro r hr
  rw [List.all_eq_true]
  exact fun e he => h r hr e he
theorem hdv_two {k N : Nat} {s t : List (Nat × Nat)} (hs : s.length = N) (ht : t.length = N) (op : ofT k s) (oq : ofT k t) : hdv k N [s, t] [] = 0 := by
  unfold hdv
  rw [if_pos (szB_two hs ht), if_pos (alB_of fun r hr => by
    simp at hr
    rcases hr with rfl | rfl | rfl
    · exact op
    · exact oq
    · exact fun e he => by simp at he)]
/-- What hinders two lists, laid as they are called. -/
theorem hind_two (k : Nat) (hk : k < 8) (N : Nat) (hN : N = 2 ^ k) (a1 a2 : Option Addr) (c1 c2 : Nat) (s t : List (Nat × Nat)) (ls : ltE s) (lt : ltE t) (h1 : s.length ≤ 100000) (h2 : t.length ≤ 100000) (W : World) (rs : ERow W a1 s) (rt : ERow W a2 t) :
    Calls Try.prog 39 #[.int .i64 (k : Int), .slice none 0 0, .slice (some ⟨W.heap.size, 0, none⟩) 2 2] (W.alloc (Obj.cells #[.slice a1 s.length c1, .slice a2 t.length c2] 26)) fun e w' => e = .returned (.int .i64 (hdv k N [s, t] [])) ∧ Below W.heap.size W w' := by
  have := phind_any k hk N hN none 0 [] W.heap.size 2 [(a1, s.length, c1), (a2, t.length, c2)] [s, t] rfl rfl (by decide) W (W.alloc (Obj.cells #[.slice a1 s.length c1, .slice a2 t.length c2] 26)) ((Below.refl _ _).alloc (Nat.le_refl _) _) ⟨fun i hi => by simp at hi⟩ (fun e he => by simp at he) (Nat.zero_le _) (fun r hr => by
      simp at hr
      rcases hr with rfl | rfl
      · exact h1
      · exact h2) (fun i hi => by
      match i, hi with
      | 0, _ => exact ⟨rfl, ls, rs⟩
      | 1, _ => exact ⟨rfl, lt, rt⟩) (World.ownsRow_lit W #[.slice a1 s.length c1, .slice a2 t.length c2] 2 (Nat.le_refl _) (by decide) rfl)
  exact this
set_option maxHeartbeats 4000000 in
theorem times_ok (k : Nat) (hk : k < 8) (N : Nat) (hN : N = 2 ^ k) (b1 o1 c1 b2 o2 c2 : Nat) (s t : List (Nat × Nat)) (hs : s.length = N) (ht : t.length = N) (ls : ltE s) (lt : ltE t) (op : ofT k s) (oq : ofT k t) (h1 : N ≤ c1) (h2 : N ≤ c2) (W : World) (rs : ERow W (some ⟨b1, o1, none⟩) s) (rt : ERow W (some ⟨b2, o2, none⟩) t) :
    Calls Try.prog 17 #[.int .i64 (k : Int), .slice (some ⟨b1, o1, none⟩) N c1, .slice (some ⟨b2, o2, none⟩) N c2] W fun e w' => ∃ b off cap : Nat, e = .returned (.tuple #[.slice (some ⟨b, off, none⟩) N cap, .int .i64 0]) ∧ N ≤ cap ∧ ERow w' (some ⟨b, off, none⟩) (prL k s t) ∧ Below W.heap.size W w' := by
  have n1 : N ≤ 128 := by rw [hN]; exact Nat.le_trans (Nat.pow_le_pow_right (by decide) (show k ≤ 7 by omega)) (by decide)
  have HH := hidT (hind_two k hk N hN (some ⟨b1, o1, none⟩) (some ⟨b2, o2, none⟩) c1 c2 s t ls lt (by omega) (by omega) W rs rt)
  rw [hdv_two hs ht op oq, hs, ht] at HH
  have HP := hidT (fun w (hw : Below W.heap.size W w) => pr_any k hk k (by omega) s t b1 o1 c1 b2 o2 c2 w (hs.trans hN) (ht.trans hN) ls lt op oq (hN ▸ h1) (hN ▸ h2) (rs.below hw) (rt.below hw))
  rw [← hN] at HP
  clear hN hs ht ls lt op oq h1 h2 rs rt
  go_enter Try.func17, Try.ntmps17
  go_wp2_with (first
    | (go_at_call 39; refine HH.out.mono ?_; rintro e w1 ⟨rfl, hb1⟩; have K1 := hidT hb1; clear hb1)
    | (go_at_call 41; refine (HP.out _ K1.out).mono ?_; rintro e w2 ⟨b, off, cap, rfl, hc, hr, hb2⟩; have K2 := hidT (And.intro hc (And.intro hr (K1.out.trans (hb2.mono K1.out.size)))); clear hc hr hb2))
  refine bodyPost_ret (v := .tuple #[.slice (some ⟨b, off, none⟩) N cap, .int .i64 0]) (by simp [results, Try.results17, go_sem]) rfl ⟨b, off, cap, rfl, ?_⟩
  exact K2.out
theorem awake_pure : prL 1 (pairv 2 (0, 2) (0, 1)) (rightv 2 (0, 2)) = [(0, 0), (0, 2)] := by decide +kernel
end Pv
end Go.Proofs.Ytcejppibcemdeaa
