/- Contracts of packv.Add, Times, Turned, of the document's May and of steeplelaw19's few over the seat's translation. -/
import Derived.Test.YtcejppibcemdeaaPvS
namespace Go.Proofs.Ytcejppibcemdeaa
open Go.RowKit
open Cb Rg
open Tw (pm)
namespace Pv

set_option maxHeartbeats 4000000 in
theorem add_no (l E : Int) (a1 a2 : Option Addr) (n1 c1 n2 c2 : Nat) (hE : ¬ E = 0) (W : World)
    (HH : Hid (Calls Try.prog 39 #[.int .i64 l, .slice none 0 0, .slice (some ⟨W.heap.size, 0, none⟩) 2 2] (W.alloc (Obj.cells #[.slice a1 n1 c1, .slice a2 n2 c2] 26)) fun e w' => e = .returned (.int .i64 E) ∧ Below W.heap.size W w')) :
    Calls Try.prog 16 #[.int .i64 l, .slice a1 n1 c1, .slice a2 n2 c2] W fun e w' => e = .returned (.tuple #[.slice none 0 0, .int .i64 E]) ∧ Below W.heap.size W w' := by
  have hE' : (E == 0) = false := by rw [beq_eq_false_iff_ne]; exact hE
  go_enter Try.func16, Try.ntmps16
  go_wp2_with (go_at_call 39; refine HH.out.mono ?_; rintro e w1 ⟨rfl, hb1⟩; have K1 := hidT hb1; clear hb1)
  refine bodyPost_ret (v := .tuple #[.slice none 0 0, .int .i64 E]) (by simp [results, Try.results16, go_sem]) rfl ⟨rfl, ?_⟩
  exact K1.out
set_option maxHeartbeats 4000000 in
theorem times_no (l E : Int) (a1 a2 : Option Addr) (n1 c1 n2 c2 : Nat) (hE : ¬ E = 0) (W : World)
    (HH : Hid (Calls Try.prog 39 #[.int .i64 l, .slice none 0 0, .slice (some ⟨W.heap.size, 0, none⟩) 2 2] (W.alloc (Obj.cells #[.slice a1 n1 c1, .slice a2 n2 c2] 26)) fun e w' => e = .returned (.int .i64 E) ∧ Below W.heap.size W w')) :
    Calls Try.prog 17 #[.int .i64 l, .slice a1 n1 c1, .slice a2 n2 c2] W fun e w' => e = .returned (.tuple #[.slice none 0 0, .int .i64 E]) ∧ Below W.heap.size W w' := by
  have hE' : (E == 0) = false := by rw [beq_eq_false_iff_ne]; exact hE
  go_enter Try.func17, Try.ntmps17
  go_wp2_with (go_at_call 39; refine HH.out.mono ?_; rintro e w1 ⟨rfl, hb1⟩; have K1 := hidT hb1; clear hb1)
  refine bodyPost_ret (v := .tuple #[.slice none 0 0, .int .i64 E]) (by simp [results, Try.results17, go_sem]) rfl ⟨rfl, ?_⟩
  exact K1.out
set_option maxHeartbeats 4000000 in
theorem turned_no (l E : Int) (a1 : Option Addr) (n1 c1 : Nat) (hE : ¬ E = 0) (W : World)
    (HH : Hid (Calls Try.prog 39 #[.int .i64 l, .slice none 0 0, .slice (some ⟨W.heap.size, 0, none⟩) 1 1] (W.alloc (Obj.cells #[.slice a1 n1 c1] 26)) fun e w' => e = .returned (.int .i64 E) ∧ Below W.heap.size W w')) :
    Calls Try.prog 18 #[.int .i64 l, .slice a1 n1 c1] W fun e w' => e = .returned (.tuple #[.slice none 0 0, .int .i64 E]) ∧ Below W.heap.size W w' := by
  have hE' : (E == 0) = false := by rw [beq_eq_false_iff_ne]; exact hE
  go_enter Try.func18, Try.ntmps18
  go_wp2_with (go_at_call 39; refine HH.out.mono ?_; rintro e w1 ⟨rfl, hb1⟩; have K1 := hidT hb1; clear hb1)
  refine bodyPost_ret (v := .tuple #[.slice none 0 0, .int .i64 E]) (by simp [results, Try.results18, go_sem]) rfl ⟨rfl, ?_⟩
  exact K1.out
/-- What hinders one list, laid as it is called. -/
theorem hind_one (k : Nat) (hk : k < 8) (N : Nat) (hN : N = 2 ^ k) (a1 : Option Addr) (c1 : Nat) (s : List (Nat × Nat)) (ls : ltE s) (h1 : s.length ≤ 100000) (W : World) (rs : ERow W a1 s) :
    Calls Try.prog 39 #[.int .i64 (k : Int), .slice none 0 0, .slice (some ⟨W.heap.size, 0, none⟩) 1 1] (W.alloc (Obj.cells #[.slice a1 s.length c1] 26)) fun e w' => e = .returned (.int .i64 (hdv k N [s] [])) ∧ Below W.heap.size W w' := by
  have := phind_any k hk N hN none 0 [] W.heap.size 1 [(a1, s.length, c1)] [s] rfl rfl (by decide) W (W.alloc (Obj.cells #[.slice a1 s.length c1] 26)) ((Below.refl _ _).alloc (Nat.le_refl _) _) ⟨fun i hi => by simp at hi⟩ (fun e he => by simp at he) (Nat.zero_le _) (fun r hr => by
      simp at hr
      rcases hr with rfl
      exact h1) (fun i hi => by
      match i, hi with
      | 0, _ => exact ⟨rfl, ls, rs⟩) (World.ownsRow_lit W #[.slice a1 s.length c1] 1 (Nat.le_refl _) (by decide) rfl)
  exact this
set_option maxHeartbeats 4000000 in
theorem turned_any (k : Nat) (hk : k < 8) (N : Nat) (hN : N = 2 ^ k) (a : Option Addr) (cap : Nat) (s : List (Nat × Nat)) (hs' : s.length = N) (ls : ltE s) (op : ofT k s) (W : World) (rs : ERow W a s) :
    Calls Try.prog 42 #[.slice a N cap] W fun e w' => ∃ g, e = .returned (.slice (some ⟨g, 0, none⟩) N N) ∧ ERow w' (some ⟨g, 0, none⟩) (trns N s) ∧ Below W.heap.size W w' := by
  have HT := hidT (sturn k hk a cap N s ls hs' hN op W rs)
  clear hN hs' ls op rs
  go_enter Try.func42, Try.ntmps42
  go_wp2_with (go_at_call 59; refine HT.out.mono ?_; rintro e w1 ⟨g, rfl, hr, hb⟩; have K1 := hidT (And.intro hr hb); clear hr hb)
  go_ret
  exact ⟨g, rfl, K1.out.1, K1.out.2⟩
theorem hdv_one {k N : Nat} {s : List (Nat × Nat)} (hs' : s.length = N) (op : ofT k s) : hdv k N [s] [] = 0 := by
  unfold hdv
  rw [if_pos (show szB N [s] = true by simp [szB, hs']), if_pos (alB_of fun r hr => by
    simp at hr
    rcases hr with rfl | rfl
    · exact op
    · exact fun e he => by simp at he)]
set_option maxHeartbeats 4000000 in
theorem turned_ok (k : Nat) (hk : k < 8) (N : Nat) (hN : N = 2 ^ k) (a : Option Addr) (cap : Nat) (s : List (Nat × Nat)) (hs' : s.length = N) (ls : ltE s) (op : ofT k s) (W : World) (rs : ERow W a s) :
    Calls Try.prog 18 #[.int .i64 (k : Int), .slice a N cap] W fun e w' => ∃ g, e = .returned (.tuple #[.slice (some ⟨g, 0, none⟩) N N, .int .i64 0]) ∧ ERow w' (some ⟨g, 0, none⟩) (trns N s) ∧ Below W.heap.size W w' := by
  have n1 : N ≤ 128 := by rw [hN]; exact Nat.le_trans (Nat.pow_le_pow_right (by decide) (show k ≤ 7 by omega)) (by decide)
  have HH := hidT (hind_one k hk N hN a cap s ls (by omega) W rs)
  rw [hdv_one hs' op, hs'] at HH
  have HT := hidT (fun w (hw : Below W.heap.size W w) => turned_any k hk N hN a cap s hs' ls op w (rs.below hw))
  clear hN hs' ls op rs
  go_enter Try.func18, Try.ntmps18
  go_wp2_with (first
    | (go_at_call 39; refine HH.out.mono ?_; rintro e w1 ⟨rfl, hb1⟩; have K1 := hidT hb1; clear hb1)
    | (go_at_call 42; refine (HT.out _ K1.out).mono ?_; rintro e w2 ⟨g, rfl, hr, hb2⟩; have K2 := hidT (And.intro hr (K1.out.trans (hb2.mono K1.out.size))); clear hr hb2))
  refine bodyPost_ret (v := .tuple #[.slice (some ⟨g, 0, none⟩) N N, .int .i64 0]) (by simp [results, Try.results18, go_sem]) rfl ⟨g, rfl, ?_⟩
  exact K2.out
theorem ad2_addv {N : Nat} {s t : List (Nat × Nat)} (hs' : s.length = N) : addv 2 N [s, t] = ad2 s t := list_ext (by rw [addv_len, ad2_len, hs']) fun c hc => by
  rw [addv_len] at hc
  rw [addv_el 2 N _ c hc, xs_two', ad2_el s t (by omega)]
  rfl
set_option maxHeartbeats 4000000 in
theorem add_ok (k : Nat) (hk : k < 8) (N : Nat) (hN : N = 2 ^ k) (a1 a2 : Option Addr) (c1 c2 : Nat) (s t : List (Nat × Nat)) (hs' : s.length = N) (ht' : t.length = N) (ls : ltE s) (lt : ltE t) (op : ofT k s) (oq : ofT k t) (W : World) (rs : ERow W a1 s) (rt : ERow W a2 t) :
    Calls Try.prog 16 #[.int .i64 (k : Int), .slice a1 N c1, .slice a2 N c2] W fun e w' => ∃ g, e = .returned (.tuple #[.slice (some ⟨g, 0, none⟩) N N, .int .i64 0]) ∧ ERow w' (some ⟨g, 0, none⟩) (ad2 s t) ∧ Below W.heap.size W w' := by
  have n1 : N ≤ 128 := by rw [hN]; exact Nat.le_trans (Nat.pow_le_pow_right (by decide) (show k ≤ 7 by omega)) (by decide)
  have HH := hidT (hind_two k hk N hN a1 a2 c1 c2 s t ls lt (by omega) (by omega) W rs rt)
  rw [hdv_two hs' ht' op oq, hs', ht'] at HH
  have HA : Hid (∀ w, Below W.heap.size W w → Calls Try.prog 40 #[.slice (some ⟨w.heap.size, 0, none⟩) 2 2] (w.alloc (Obj.cells #[.slice a1 N c1, .slice a2 N c2] 26)) fun e w' => ∃ g, e = .returned (.slice (some ⟨g, 0, none⟩) N N) ∧ ERow w' (some ⟨g, 0, none⟩) (ad2 s t) ∧ Below w.heap.size w w') := fun w hw => by
    have DB : Below w.heap.size w (w.alloc (Obj.cells #[.slice a1 N c1, .slice a2 N c2] 26)) := (Below.refl _ _).alloc (Nat.le_refl _) _
    have := added_row (some ⟨w.heap.size, 0, none⟩) 2 2 N [(a1, N, c1), (a2, N, c2)] [s, t] rfl (by decide) (by decide) rfl (by omega) (fun i hi => by
      match i, hi with
      | 0, _ => exact Nat.le_of_eq hs'.symm
      | 1, _ => exact Nat.le_of_eq ht'.symm) _ (grid_new w 26 [(a1, N, c1), (a2, N, c2)] _ rfl) (fun i hi => by
      match i, hi with
      | 0, _ => exact ⟨hs'.symm, ls, (rs.below hw).below DB⟩
      | 1, _ => exact ⟨ht'.symm, lt, (rt.below hw).below DB⟩)
    rw [ad2_addv hs'] at this
    exact this.mono fun e w' ⟨p, h1, h2, _, h4⟩ => ⟨p, h1, h2.1, DB.trans (h4.mono DB.size)⟩
  clear hN hs' ht' ls lt op oq rs rt
  go_enter Try.func16, Try.ntmps16
  go_wp2_with (first
    | (go_at_call 39; refine HH.out.mono ?_; rintro e w1 ⟨rfl, hb1⟩; have K1 := hidT hb1; clear hb1)
    | (go_at_call 40; refine (HA.out _ K1.out).mono ?_; rintro e w2 ⟨g, rfl, hr, hb2⟩; have K2 := hidT (And.intro hr (K1.out.trans (hb2.mono K1.out.size))); clear hr hb2))
  refine bodyPost_ret (v := .tuple #[.slice (some ⟨g, 0, none⟩) N N, .int .i64 0]) (by simp [results, Try.results16, go_sem]) rfl ⟨g, rfl, ?_⟩
  exact K2.out
theorem may_bad (l : Int) (hl : ¬ (0 ≤ l ∧ l ≤ 7)) (a b : Option Addr) (n c n2 c2 : Nat) : Ret 20 #[.int .i64 l, .slice a n c, .slice b n2 c2] (.int .i64 1) := by
  intro W
  by_cases h : l < 0
  · go_enter Try.func20, Try.ntmps20
    go_wp2
    go_ret
    exact ⟨rfl, Below.refl _ _⟩
  · have h7 : (7 : Int) < l := by omega
    clear hl
    go_enter Try.func20, Try.ntmps20
    go_wp2
    go_ret
    exact ⟨rfl, Below.refl _ _⟩
set_option linter.unusedSimpArgs false in
set_option linter.unusedVariables false in
set_option maxHeartbeats 4000000 in
theorem rmayv (k : Nat) (hk : k < 8) (N : Nat) (hN : N = 2 ^ k) (a1 a2 : Option Addr) (c1 c2 : Nat) (s t : List (Nat × Nat)) (ls : ltE s) (lt : ltE t) (h1 : s.length ≤ 100000) (h2 : t.length ≤ 100000) (W : World) (rs : ERow W a1 s) (rt : ERow W a2 t) :
    Calls Try.prog 20 #[.int .i64 (k : Int), .slice a1 s.length c1, .slice a2 t.length c2] W fun e w' => e = .returned (.int .i64 (hdv k N [s, t] [])) ∧ Below W.heap.size W w' := by
  have HN := hidT (rn19 k hk)
  rw [← hN] at HN
  have l0 : ¬ (k : Int) < 0 := by omega
  have l7 : ¬ (7 : Int) < (k : Int) := by omega
  have A1 := hidT (fun w (hw : Below W.heap.size W w) => rall15 (k : Int) a1 c1 s ls w (rs.below hw) h1)
  have A2 := hidT (fun w (hw : Below W.heap.size W w) => rall15 (k : Int) a2 c2 t lt w (rt.below hw) h2)
  have HV : Hid (hdv k N [s, t] [] = if s.length = N ∧ t.length = N then (if (s.all fun e => ofB (k : Int) (e.1 : Int) (e.2 : Int)) = true ∧ (t.all fun e => ofB (k : Int) (e.1 : Int) (e.2 : Int)) = true then 0 else 5) else 6) := by
    show _ = _
    unfold hdv szB alB
    by_cases e1 : s.length = N <;> by_cases e2 : t.length = N <;> cases hB : (s.all fun e => ofB (k : Int) (e.1 : Int) (e.2 : Int)) <;> cases hC : (t.all fun e => ofB (k : Int) (e.1 : Int) (e.2 : Int)) <;> simp [e1, e2, hB, hC]
  clear hN ls lt rs rt
  generalize hdv k N [s, t] [] = V at *
  generalize (s.all fun e => ofB (k : Int) (e.1 : Int) (e.2 : Int)) = B1 at *
  generalize (t.all fun e => ofB (k : Int) (e.1 : Int) (e.2 : Int)) = B2 at *
  generalize s.length = n1 at *
  generalize t.length = n2 at *
  by_cases e1 : n1 = N
  rotate_left
  · have qa1 : ¬ (n1 : Int) = (N : Int) := by omega
    have hV : V = 6 := by rw [HV.out, if_neg (fun h => e1 h.1)]
    rw [hV]
    clear hV HV
    go_enter Try.func20, Try.ntmps20
    go_wp2_with (go_at_call 36; refine (HN.out.go _).mono ?_; rintro e w1 ⟨rfl, hb1⟩)
    go_ret
    exact ⟨rfl, hb1⟩
  by_cases e2 : n2 = N
  rotate_left
  · have qa1 : (n1 : Int) = (N : Int) := by omega
    have qa2 : ¬ (n2 : Int) = (N : Int) := by omega
    have hV : V = 6 := by rw [HV.out, if_neg (fun h => e2 h.2)]
    rw [hV]
    clear hV HV e1
    go_enter Try.func20, Try.ntmps20
    go_wp2_with (first | (go_at_call 36; refine (HN.out.go _).mono ?_; rintro e w2 ⟨rfl, hb2⟩; have K2 := hidT (K1.out.trans (hb2.mono K1.out.size)); clear hb2) | (go_at_call 36; refine (HN.out.go _).mono ?_; rintro e w1 ⟨rfl, hb1⟩; have K1 := hidT hb1; clear hb1))
    go_ret
    exact ⟨rfl, K2.out⟩
  have qa1 : (n1 : Int) = (N : Int) := by omega
  have qa2 : (n2 : Int) = (N : Int) := by omega
  have hV : V = if B1 = true ∧ B2 = true then 0 else 5 := by rw [HV.out, if_pos ⟨e1, e2⟩]
  cases B1 with
  | false =>
    rw [show V = 5 from by rw [hV]; rfl]
    clear hV HV e1 e2
    go_enter Try.func20, Try.ntmps20
    go_wp2_with (first | (go_at_call 30; refine (A1.out _ K2.out).mono ?_; rintro e w3 ⟨rfl, hb3⟩; have K3 := hidT (K2.out.trans (hb3.mono K2.out.size)); clear hb3) | (go_at_call 36; refine (HN.out.go _).mono ?_; rintro e w2 ⟨rfl, hb2⟩; have K2 := hidT (K1.out.trans (hb2.mono K1.out.size)); clear hb2) | (go_at_call 36; refine (HN.out.go _).mono ?_; rintro e w1 ⟨rfl, hb1⟩; have K1 := hidT hb1; clear hb1))
    go_ret
    exact ⟨rfl, K3.out⟩
  | true =>
    cases B2 with
    | false =>
      rw [show V = 5 from by rw [hV]; rfl]
      clear hV HV e1 e2
      go_enter Try.func20, Try.ntmps20
      go_wp2_with (first | (go_at_call 30; refine (A2.out _ K3.out).mono ?_; rintro e w4 ⟨rfl, hb4⟩; have K4 := hidT (K3.out.trans (hb4.mono K3.out.size)); clear hb4) | (go_at_call 30; refine (A1.out _ K2.out).mono ?_; rintro e w3 ⟨rfl, hb3⟩; have K3 := hidT (K2.out.trans (hb3.mono K2.out.size)); clear hb3) | (go_at_call 36; refine (HN.out.go _).mono ?_; rintro e w2 ⟨rfl, hb2⟩; have K2 := hidT (K1.out.trans (hb2.mono K1.out.size)); clear hb2) | (go_at_call 36; refine (HN.out.go _).mono ?_; rintro e w1 ⟨rfl, hb1⟩; have K1 := hidT hb1; clear hb1))
      go_ret
      exact ⟨rfl, K4.out⟩
    | true =>
      rw [show V = 0 from by rw [hV]; rfl]
      clear hV HV e1 e2
      go_enter Try.func20, Try.ntmps20
      go_wp2_with (first | (go_at_call 30; refine (A2.out _ K3.out).mono ?_; rintro e w4 ⟨rfl, hb4⟩; have K4 := hidT (K3.out.trans (hb4.mono K3.out.size)); clear hb4) | (go_at_call 30; refine (A1.out _ K2.out).mono ?_; rintro e w3 ⟨rfl, hb3⟩; have K3 := hidT (K2.out.trans (hb3.mono K2.out.size)); clear hb3) | (go_at_call 36; refine (HN.out.go _).mono ?_; rintro e w2 ⟨rfl, hb2⟩; have K2 := hidT (K1.out.trans (hb2.mono K1.out.size)); clear hb2) | (go_at_call 36; refine (HN.out.go _).mono ?_; rintro e w1 ⟨rfl, hb1⟩; have K1 := hidT hb1; clear hb1))
      go_ret
      exact ⟨rfl, K4.out⟩
/-- Are parts no more than statements go through? -/
def fw19 (l : Int) (ls : List (Option Addr × Nat × Nat)) : Bool := !(decide (4 < l) && decide (l ≤ 7)) && ls.all fun r => decide (r.2.1 ≤ 20)
set_option maxHeartbeats 4000000 in
theorem few19 (l : Int) (a : Option Addr) (cap n : Nat) (ls : List (Option Addr × Nat × Nat)) (hl : ls.length = n) (hn : n ≤ 1000) (W : World) (hr : Grid W a ls) :
    Calls Try.prog 15 #[.int .i64 l, .slice a n cap] W fun e w' => e = .returned (.bool (fw19 l ls)) ∧ Below W.heap.size W w' := by
  have HR := hidT (And.intro hr hl)
  clear hr hl
  by_cases h1 : 4 < l
  · by_cases h2 : l ≤ 7
    · have HF : Hid (fw19 l ls = false) := by show _ = _; unfold fw19; rw [decide_eq_true h1, decide_eq_true h2]; rfl
      go_enter Try.func15, Try.ntmps15
      go_wp2
      go_ret
      exact ⟨by rw [HF.out]; rfl, Below.refl _ _⟩
    · have h3 : ¬ l ≤ 7 := h2
      have HF : Hid (fw19 l ls = ls.all fun r => decide (r.2.1 ≤ 20)) := by show _ = _; unfold fw19; rw [decide_eq_false h2, Bool.and_false]; rfl
      go_enter Try.func15, Try.ntmps15
      go_wp2
      go_loopw [5] (fun u wr => ∃ i : Nat, i ≤ n ∧ u = .int .i64 i ∧ Hid (∀ j, j < i → (ls.getD j (none, 0, 0)).2.1 ≤ 20) ∧ Hid (Below W.heap.size W wr)) (fun u _ => n - (intOf u).toNat)
      case atStart => exact ⟨0, Nat.zero_le _, rfl, (fun j hj => by omega), Below.refl _ _⟩
      case round =>
        obtain ⟨i, hi, rfl, HA, HK⟩ := hrel
        by_cases hlt : i < n
        · have i1 : (i : Int) < (n : Int) := by omega
          have i0 : (0 : Int) ≤ (i : Int) := by omega
          have hil : i < ls.length := by rw [HR.out.2]; exact hlt
          obtain ⟨b, off, rfl, hb, cb⟩ := HR.out.1.cells i hil
          have db := keepc HK.out cb
          clear cb
          obtain ⟨m, hm⟩ : ∃ m, m = (ls.getD i (none, 0, 0)).2.1 := ⟨_, rfl⟩
          rw [← hm] at db
          generalize (ls.getD i (none, 0, 0)).1 = ra at db
          generalize (ls.getD i (none, 0, 0)).2.2 = cp at db
          have HM := hidT hm
          clear hm
          by_cases h20 : (20 : Int) < (m : Int)
          · have HV : Hid (fw19 l ls = false) := by
              show _ = _
              rw [HF.out]
              exact all_not (none, 0, 0) hil (decide_eq_false (by rw [← HM.out]; omega))
            go_wp2
            go_ret
            exact ⟨by rw [HV.out]; rfl, HK.out⟩
          · go_wp2
            refine ⟨⟨i + 1, hlt, by simp, fun j hj => ?_, HK⟩, by simp [intOf]; omega⟩
            by_cases e : j = i
            · rw [e, ← HM.out]; omega
            · exact HA.out j (by omega)
        · obtain rfl : i = n := by omega
          have HV : Hid (fw19 l ls = true) := by
            show _ = _
            rw [HF.out]
            exact all_at (none, 0, 0) fun j hj => decide_eq_true (HA.out j (by rw [← HR.out.2]; exact hj))
          go_wp2
          go_ret
          exact ⟨by rw [HV.out]; rfl, HK.out⟩
  · have HF : Hid (fw19 l ls = ls.all fun r => decide (r.2.1 ≤ 20)) := by show _ = _; unfold fw19; rw [decide_eq_false h1, Bool.false_and]; rfl
    go_enter Try.func15, Try.ntmps15
    go_wp2
    go_loopw [5] (fun u wr => ∃ i : Nat, i ≤ n ∧ u = .int .i64 i ∧ Hid (∀ j, j < i → (ls.getD j (none, 0, 0)).2.1 ≤ 20) ∧ Hid (Below W.heap.size W wr)) (fun u _ => n - (intOf u).toNat)
    case atStart => exact ⟨0, Nat.zero_le _, rfl, (fun j hj => by omega), Below.refl _ _⟩
    case round =>
      obtain ⟨i, hi, rfl, HA, HK⟩ := hrel
      by_cases hlt : i < n
      · have i1 : (i : Int) < (n : Int) := by omega
        have i0 : (0 : Int) ≤ (i : Int) := by omega
        have hil : i < ls.length := by rw [HR.out.2]; exact hlt
        obtain ⟨b, off, rfl, hb, cb⟩ := HR.out.1.cells i hil
        have db := keepc HK.out cb
        clear cb
        obtain ⟨m, hm⟩ : ∃ m, m = (ls.getD i (none, 0, 0)).2.1 := ⟨_, rfl⟩
        rw [← hm] at db
        generalize (ls.getD i (none, 0, 0)).1 = ra at db
        generalize (ls.getD i (none, 0, 0)).2.2 = cp at db
        have HM := hidT hm
        clear hm
        by_cases h20 : (20 : Int) < (m : Int)
        · have HV : Hid (fw19 l ls = false) := by
            show _ = _
            rw [HF.out]
            exact all_not (none, 0, 0) hil (decide_eq_false (by rw [← HM.out]; omega))
          go_wp2
          go_ret
          exact ⟨by rw [HV.out]; rfl, HK.out⟩
        · go_wp2
          refine ⟨⟨i + 1, hlt, by simp, fun j hj => ?_, HK⟩, by simp [intOf]; omega⟩
          by_cases e : j = i
          · rw [e, ← HM.out]; omega
          · exact HA.out j (by omega)
      · obtain rfl : i = n := by omega
        have HV : Hid (fw19 l ls = true) := by
          show _ = _
          rw [HF.out]
          exact all_at (none, 0, 0) fun j hj => decide_eq_true (HA.out j (by rw [← HR.out.2]; exact hj))
        go_wp2
        go_ret
        exact ⟨by rw [HV.out]; rfl, HK.out⟩
end Pv
end Go.Proofs.Ytcejppibcemdeaa
