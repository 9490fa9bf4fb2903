/- TurnSigns: the walk where the row is made; the law, whatever is given. -/
import Derived.Test.YthfebbmmhjkglaaTuS
namespace Go.Proofs.Ythfebbmmhjkglaa
open Go.RowKit
open Cb
open Tw (pm)
set_option maxRecDepth 100000
set_option maxHeartbeats 8000000

theorem row_at {w : World} {g y : Nat} {L : List (Nat × Nat)} (h : ERow w (some ⟨g, 0, none⟩) L) (hy : y < L.length) : w.cell? ⟨g, y * 2, none⟩ = some (.int .u64 ((L.getD y (0, 0)).1 : Int)) ∧ w.cell? ⟨g, y * 2 + 1, none⟩ = some (.int .u64 ((L.getD y (0, 0)).2 : Int)) := by
  obtain ⟨b, off, h1, _, h3, h4⟩ := h.cells y hy
  cases h1
  rw [Nat.zero_add] at h3 h4
  exact ⟨h3, h4⟩
theorem ts_ok (l k e : Int) (q t n : Nat) (hq : q ≤ 4) (hn : pw (q : Int) = n) (hn2 : [1, 2, 4, 8, 16, 32, 64].getD q 0 = n) (pa ra : Option Addr) (pc rc : Nat) (p r : List (Nat × Nat)) (h2 : ¬ 6 < p.length) (h3 : ¬ 6 < r.length) (hp : ltE p) (hr : ltE r) (W : World) (hP : ERow W pa p) (hR : ERow W ra r) (ha : my18 l k q t p = 0) (hb : my18 l k q t r = e) (V S2 : Nat × Nat) (hV : ¬ e = 0 → V = (0, 0)) (hV2 : e = 0 → V = S2) (L : List (Nat × Nat)) (hL : L.length = n) (HS0 : ∀ y, y < n → ∀ w xA xc, ERow w xA p → Calls Try.prog 21 #[.int .i64 k, .int .i64 (q : Int), .int .i64 (t : Int), .slice xA p.length xc, .int .i64 (y : Int)] w fun e w' => e = .returned (.agg #[.int .u64 ((L.getD y (0, 0)).1 : Int), .int .u64 ((L.getD y (0, 0)).2 : Int)]) ∧ Below w.heap.size w w') (HT0 : ∀ w xA xc ya yc, ERow w xA p → ERow w ya r → Calls Try.prog 22 #[.int .i64 k, .int .i64 (q : Int), .int .i64 (t : Int), .slice xA p.length xc, .slice ya r.length yc] w fun e w' => e = .returned (.agg #[.int .u64 (S2.1 : Int), .int .u64 (S2.2 : Int)]) ∧ Below w.heap.size w w') (HAt0 : ∀ w, Below W.heap.size W w → Calls Try.prog 17 #[.int .i64 l, .int .i64 k, .int .i64 (q : Int), .int .i64 (t : Int), .slice pa p.length pc, .slice ra r.length rc] w fun e' w' => e' = .returned (.tuple #[.agg #[.int .u64 (V.1 : Int), .int .u64 (V.2 : Int)], .int .i64 e]) ∧ Below w.heap.size w w') (HRw0 : ∀ w, Below W.heap.size W w → Calls Try.prog 18 #[.int .i64 l, .int .i64 k, .int .i64 (q : Int), .int .i64 (t : Int), .slice pa p.length pc] w fun e' w' => ∃ g, e' = .returned (.tuple #[.slice (some ⟨g, 0, none⟩) n n, .int .i64 0]) ∧ ERow w' (some ⟨g, 0, none⟩) L ∧ Below w.heap.size w w') :
    Calls Try.prog 4 #[.int .i64 l, .agg #[.int .i64 k, .int .i64 (q : Int), .int .i64 (t : Int)], .agg #[.slice pa p.length pc, .slice ra r.length rc]] W fun e w' => e = .returned (.bool true) ∧ Below W.heap.size W w' := by
  have HA := Hid.mkT awake18
  have K := Hid.mkT (Tq.new W k q t pa ra p.length pc r.length rc)
  have h2' : ¬ (6 : Int) < (p.length : Int) := by omega
  have h3' : ¬ (6 : Int) < (r.length : Int) := by omega
  have HR1 : Hid (∀ w, Below W.heap.size W w → Calls Try.prog 19 #[.slice pa p.length pc] w fun e w' => ∃ a' cap', e = .returned (.slice a' p.length cap') ∧ ERow w' a' p ∧ Below w.heap.size w w') := fun w hw => ref_row pa pc p (by omega) w (hP.below hw)
  have HR2 : Hid (∀ w, Below W.heap.size W w → Calls Try.prog 19 #[.slice ra r.length rc] w fun e w' => ∃ a' cap', e = .returned (.slice a' r.length cap') ∧ ERow w' a' r ∧ Below w.heap.size w w') := fun w hb => ref_row ra rc r (by omega) w (hR.below hb)
  have HM1 : Hid (∀ w xA xc, ERow w xA p → Calls Try.prog 20 #[.int .i64 l, .int .i64 k, .int .i64 (q : Int), .int .i64 (t : Int), .slice xA p.length xc] w fun e w' => e = .returned (.int .i64 0) ∧ Below w.heap.size w w') := fun w xA xc h => by
    have := rmay18 l k q t xA xc p hp (by omega) w h
    rw [ha] at this
    exact this
  have HM2 : Hid (∀ w xA xc, ERow w xA r → Calls Try.prog 20 #[.int .i64 l, .int .i64 k, .int .i64 (q : Int), .int .i64 (t : Int), .slice xA r.length xc] w fun e' w' => e' = .returned (.int .i64 e) ∧ Below w.heap.size w w') := fun w xA xc h => by
    have := rmay18 l k q t xA xc r hr (by omega) w h
    rw [hb] at this
    exact this
  have HAt := Hid.mkT HAt0
  have HRw := Hid.mkT HRw0
  have HS := Hid.mkT HS0
  have HT := Hid.mkT HT0
  have HV := Hid.mkT (And.intro hV hV2)
  have HL : Hid (L.length = n) := hL
  have hn1 := pw_le (w := (q : Int)) (by omega)
  rw [hn] at hn1
  have HN := Hid.mkT hn2
  have hv : ¬ (4 : Int) < (q : Int) := by omega
  clear HAt0 HRw0 ha hb hp hr hP hR HS0 HT0 hV hV2 hL hn hn2
  go_enter Try.func4, Try.ntmps4
  go_wp2_with (first
    | (go_at_call 17; refine (HAt.out _ K.out.d).mono ?_; rintro e' w1 ⟨rfl, hb1⟩; have K1 : Hid (Tq W (w1.alloc (Obj.cells #[.int .u64 (V.1 : Int), .int .u64 (V.2 : Int)] 41)) k (q : Int) (t : Int) pa ra p.length pc r.length rc ∧ El (w1.alloc (Obj.cells #[.int .u64 (V.1 : Int), .int .u64 (V.2 : Int)] 41)) w1.heap.size V.1 V.2) := ⟨(K.out.below hb1).below ((Below.refl _ _).alloc (Nat.le_refl _) _), ⟨by simp [go_sem], by simp [go_sem]⟩⟩; clear hb1; obtain ⟨⟨c0, c1, c2⟩, c3, c4, _⟩ := K1.out.1)
    | (go_at_call 18; refine (HRw.out _ K1.out.1.d).mono ?_; rintro e' w2 ⟨g, rfl, L2, hb2⟩; have K2 : Hid (Tq W w2 k (q : Int) (t : Int) pa ra p.length pc r.length rc ∧ El w2 w1.heap.size V.1 V.2 ∧ ERow w2 (some ⟨g, 0, none⟩) L) := ⟨K1.out.1.below hb2, K1.out.2.below hb2, L2⟩; clear hb2 L2 K1 c0 c1 c2 c3 c4))
  generalize w1.heap.size = q7 at *
  obtain ⟨c3, c4⟩ : _ ∧ _ := ⟨K2.out.1.p, K2.out.1.r⟩
  go_upto_region 5 with fail
  go_region_held3 (fun w => w.cell? ⟨W.heap.size + 1, 0, none⟩ = some (.slice pa p.length pc) ∧ w.cell? ⟨W.heap.size + 1, 1, none⟩ = some (.slice ra r.length rc)) (go_keep) (first | (go_at_call 19; refine (HR2.out _ K3.out.1.d).mono ?_; rintro e' w4 ⟨ya, yc, rfl, Y4, hb4⟩; have K4 : Hid (Ts W w4 k (q : Int) (t : Int) pa ra p.length pc r.length rc q7 V xA ya p r ∧ ERow w4 (some ⟨g, 0, none⟩) L) := ⟨⟨K3.out.1.below hb4, K3.out.2.1.below hb4, K3.out.2.2.1.below hb4, Y4⟩, K3.out.2.2.2.below hb4⟩; clear hb4 Y4 c3 c4; obtain ⟨c3, c4⟩ : _ ∧ _ := ⟨K4.out.1.b.p, K4.out.1.b.r⟩) | (go_at_call 19; refine (HR1.out _ (by first | exact K2.out.1.d | exact K2.out.1.drew.d)).mono ?_; rintro e' w3 ⟨xA, xc, rfl, X3, hb3⟩; have K3 : Hid (Tq W w3 k (q : Int) (t : Int) pa ra p.length pc r.length rc ∧ El w3 q7 V.1 V.2 ∧ ERow w3 xA p ∧ ERow w3 (some ⟨g, 0, none⟩) L) := (by first | exact ⟨K2.out.1.below hb3, K2.out.2.1.below hb3, X3, K2.out.2.2.below hb3⟩ | exact ⟨K2.out.1.drew.below hb3, K2.out.2.1.drew.below hb3, X3, K2.out.2.2.drew.below hb3⟩); clear hb3 X3 c3 c4; obtain ⟨c3, c4⟩ : _ ∧ _ := ⟨K3.out.1.p, K3.out.1.r⟩))
  clear c3 c4 K2 K3 HAt HRw HR1 HR2 K
  obtain ⟨c0, c1, c2⟩ : _ ∧ _ ∧ _ := ⟨K4.out.1.b.t.c0, K4.out.1.b.t.c1, K4.out.1.b.t.c2⟩
  go_upto_region 6 with fail
  go_region_held3 (fun w => w.cell? ⟨W.heap.size, 0, none⟩ = some (.int .i64 k) ∧ w.cell? ⟨W.heap.size, 1, none⟩ = some (.int .i64 (q : Int)) ∧ w.cell? ⟨W.heap.size, 2, none⟩ = some (.int .i64 (t : Int))) (go_keep) (first | (go_at_call 20; refine (HM2.out _ _ _ K5.out.1.y).mono ?_; rintro e' w6 ⟨rfl, hb6⟩; have K6 : Hid (Ts W w6 k (q : Int) (t : Int) pa ra p.length pc r.length rc q7 V xA ya p r ∧ ERow w6 (some ⟨g, 0, none⟩) L) := ⟨K5.out.1.below hb6, K5.out.2.below hb6⟩; clear hb6 c0 c1 c2; obtain ⟨c0, c1, c2⟩ : _ ∧ _ ∧ _ := ⟨K6.out.1.b.t.c0, K6.out.1.b.t.c1, K6.out.1.b.t.c2⟩) | (go_at_call 20; refine (HM1.out _ _ _ (by first | exact K4.out.1.x | exact K4.out.1.drew.x)).mono ?_; rintro e' w5 ⟨rfl, hb5⟩; have K5 : Hid (Ts W w5 k (q : Int) (t : Int) pa ra p.length pc r.length rc q7 V xA ya p r ∧ ERow w5 (some ⟨g, 0, none⟩) L) := (by first | exact ⟨K4.out.1.below hb5, K4.out.2.below hb5⟩ | exact ⟨K4.out.1.drew.below hb5, K4.out.2.drew.below hb5⟩); clear hb5 c0 c1 c2; obtain ⟨c0, c1, c2⟩ : _ ∧ _ ∧ _ := ⟨K5.out.1.b.t.c0, K5.out.1.b.t.c1, K5.out.1.b.t.c2⟩))
  clear K4 K5 HM1 HM2
  have cz := sizes5 w6 3 (k := q) (by omega) HN.out
  have q5 : (q : Int) < 5 := by omega
  have K7 : Hid (Ts W (w6.alloc (Obj.cells #[.int .i64 1, .int .i64 2, .int .i64 4, .int .i64 8, .int .i64 16] 3)) k (q : Int) (t : Int) pa ra p.length pc r.length rc q7 V xA ya p r ∧ ERow (w6.alloc (Obj.cells #[.int .i64 1, .int .i64 2, .int .i64 4, .int .i64 8, .int .i64 16] 3)) (some ⟨g, 0, none⟩) L) := ⟨K6.out.1.below ((Below.refl _ _).alloc (Nat.le_refl _) _), K6.out.2.below ((Below.refl _ _).alloc (Nat.le_refl _) _)⟩
  clear K6 c0 c1 c2
  obtain ⟨c0, c1, c2⟩ : _ ∧ _ ∧ _ := ⟨K7.out.1.b.t.c0, K7.out.1.b.t.c1, K7.out.1.b.t.c2⟩
  go_wp2_with fail
  clear cz c0 c1 c2
  go_loopw [16] (fun u wr => ∃ y : Nat, y ≤ n ∧ u = .int .i64 y ∧ Hid (Ts W wr k (q : Int) (t : Int) pa ra p.length pc r.length rc q7 V xA ya p r ∧ ERow wr (some ⟨g, 0, none⟩) L)) (fun u _ => n - (intOf u).toNat)
  case atStart => exact ⟨0, Nat.zero_le _, rfl, by first | exact K7 | exact ⟨K7.out.1.drew, K7.out.2.below (Below.refl _ _).drew⟩⟩
  case round =>
    obtain ⟨y, hy, rfl, K⟩ := hrel
    clear K7
    by_cases hlt : y < n
    · have b1 : (y : Int) < (n : Int) := by omega
      have HSy := Hid.mkT (HS.out y hlt)
      obtain ⟨c0, c1, c2⟩ : _ ∧ _ ∧ _ := ⟨K.out.1.b.t.c0, K.out.1.b.t.c1, K.out.1.b.t.c2⟩
      have HK : Hid (∀ w, ERow w (some ⟨g, 0, none⟩) L → w.cell? ⟨g, y * 2, none⟩ = some (.int .u64 ((L.getD y (0, 0)).1 : Int)) ∧ w.cell? ⟨g, y * 2 + 1, none⟩ = some (.int .u64 ((L.getD y (0, 0)).2 : Int))) := fun w h => row_at h (by rw [HL.out]; exact hlt)
      generalize L.getD y (0, 0) = o at *
      obtain ⟨d0, d1⟩ := HK.out _ K.out.2
      go_upto_region 18 with fail
      go_region_held3 (fun w => w.cell? ⟨W.heap.size, 0, none⟩ = some (.int .i64 k) ∧ w.cell? ⟨W.heap.size, 1, none⟩ = some (.int .i64 (q : Int)) ∧ w.cell? ⟨W.heap.size, 2, none⟩ = some (.int .i64 (t : Int)) ∧ w.cell? ⟨g, y * 2, none⟩ = some (.int .u64 (o.1 : Int)) ∧ w.cell? ⟨g, y * 2 + 1, none⟩ = some (.int .u64 (o.2 : Int))) (go_keep) (first | (go_at_call 21; refine (HSy.out _ _ _ (by first | exact K.out.1.x | exact K.out.1.drew.x)).mono ?_; rintro e' w8 ⟨rfl, hb8⟩; have K8 : Hid (Ts W w8 k (q : Int) (t : Int) pa ra p.length pc r.length rc q7 V xA ya p r ∧ ERow w8 (some ⟨g, 0, none⟩) L) := (by first | exact ⟨K.out.1.below hb8, K.out.2.below hb8⟩ | exact ⟨K.out.1.drew.below hb8, K.out.2.drew.below hb8⟩); clear hb8 c0 c1 c2 d0 d1; obtain ⟨c0, c1, c2⟩ : _ ∧ _ ∧ _ := ⟨K8.out.1.b.t.c0, K8.out.1.b.t.c1, K8.out.1.b.t.c2⟩; obtain ⟨d0, d1⟩ := HK.out _ K8.out.2))
      clear c0 c1 c2 d0 d1
      go_wp2_with fail
      exact ⟨⟨y + 1, hlt, by simp, by first | exact K8 | exact ⟨K8.out.1.drew, K8.out.2.drew⟩⟩, by simp [intOf]; omega⟩
    · have b1 : ¬ (y : Int) < (n : Int) := by omega
      obtain ⟨z1, z2⟩ := K.out.1.z
      by_cases e0 : e = 0
      · have e1 : (e != 0) = false := by simp [e0]
        obtain ⟨c0, c1, c2⟩ : _ ∧ _ ∧ _ := ⟨K.out.1.b.t.c0, K.out.1.b.t.c1, K.out.1.b.t.c2⟩
        have hV := HV.out.2 e0
        clear HV HS
        go_upto_region 24 with fail
        go_region_held3 (fun w => w.cell? ⟨W.heap.size, 0, none⟩ = some (.int .i64 k) ∧ w.cell? ⟨W.heap.size, 1, none⟩ = some (.int .i64 (q : Int)) ∧ w.cell? ⟨W.heap.size, 2, none⟩ = some (.int .i64 (t : Int)) ∧ w.cell? ⟨q7, 0, none⟩ = some (.int .u64 (V.1 : Int)) ∧ w.cell? ⟨q7, 1, none⟩ = some (.int .u64 (V.2 : Int))) (go_keep) (first | (go_at_call 9; refine (HA.out.go _).mono ?_; rintro e' w8 ⟨rfl, hb8⟩; have K8 := Hid.mkT (Ts.below (w' := w8) (by first | exact K.out.1 | exact K.out.1.drew) hb8); clear hb8 c0 c1 c2 z1 z2; obtain ⟨c0, c1, c2⟩ : _ ∧ _ ∧ _ := ⟨K8.out.b.t.c0, K8.out.b.t.c1, K8.out.b.t.c2⟩; obtain ⟨z1, z2⟩ := K8.out.z) | (go_at_call 22; refine (HT.out _ _ _ _ _ K8.out.x K8.out.y).mono ?_; rintro e' w9 ⟨rfl, hb9⟩; have K9 := Hid.mkT (K8.out.below hb9); clear hb9 c0 c1 c2 z1 z2; obtain ⟨c0, c1, c2⟩ : _ ∧ _ ∧ _ := ⟨K9.out.b.t.c0, K9.out.b.t.c1, K9.out.b.t.c2⟩; obtain ⟨z1, z2⟩ := K9.out.z))
        subst hV
        go_wp2_with fail
        go_ret
        exact ⟨by simp, by first | exact K9.out.b.d | exact K9.out.drew.b.d⟩
      · have e1 : (e != 0) = true := by simp [e0]
        have hV := HV.out.1 e0
        subst hV
        clear HS HT HV
        go_wp2_with (go_at_call 9; refine (HA.out.go _).mono ?_; rintro e' w8 ⟨rfl, hb8⟩; have K8 := Hid.mkT (Ts.below (w' := w8) (by first | exact K.out.1 | exact K.out.1.drew) hb8); clear hb8 z1 z2; obtain ⟨z1, z2⟩ := K8.out.z)
        go_ret
        exact ⟨by simp, K8.out.b.d⟩
theorem hd1_none {l : Int} {q : Nat} {p : List (Nat × Nat)} (h : hd1 l q p = 0) : ∃ m : Nat, m < 8 ∧ l = (m : Int) ∧ p.length = q ∧ ofT m p := by
  unfold hd1 at h
  by_cases h1 : 0 ≤ l ∧ l ≤ 7
  · rw [if_pos h1] at h
    by_cases h2 : p.length = q
    · rw [if_pos h2] at h
      by_cases h3 : (p.all fun e => ofB l (e.1 : Int) (e.2 : Int)) = true
      · obtain ⟨m, rfl⟩ : ∃ m : Nat, l = (m : Int) := ⟨l.toNat, by omega⟩
        exact ⟨m, by omega, rfl, h2, fun e he => List.all_eq_true.1 h3 e he⟩
      · rw [if_neg h3] at h; exact absurd h (by decide)
    · rw [if_neg h2] at h; exact absurd h (by decide)
  · rw [if_neg h1] at h; exact absurd h (by decide)
theorem ts_any (l k v s : Int) (pa ra : Option Addr) (pc rc : Nat) (p r : List (Nat × Nat)) (hp : ltE p) (hr : ltE r) (W : World) (hP : ERow W pa p) (hR : ERow W ra r) :
    Calls Try.prog 4 #[.int .i64 l, .agg #[.int .i64 k, .int .i64 v, .int .i64 s], .agg #[.slice pa p.length pc, .slice ra r.length rc]] W fun e w' => e = .returned (.bool true) ∧ Below W.heap.size W w' := by
  by_cases hfar : (4 < v ∧ v ≤ 6) ∨ 6 < p.length ∨ 6 < r.length
  · exact ts_far l k v s pa ra pc rc p r hfar W
  have h1 : ¬ (4 < v ∧ v ≤ 6) := fun h => hfar (.inl h)
  have h2 : ¬ 6 < p.length := fun h => hfar (.inr (.inl h))
  have h3 : ¬ 6 < r.length := fun h => hfar (.inr (.inr h))
  by_cases h0 : my18 l k v s p = 0
  case neg => exact ts_no l k v s pa ra pc rc p r h1 h2 h3 hp hr W hP hR h0
  cases hf : ftB k v s with
  | false => rw [my18_no hf] at h0; exact absurd h0 (by decide)
  | true =>
    obtain ⟨⟨f1, f2⟩, ⟨f3, f4⟩, _⟩ := ftB_true hf
    obtain ⟨q, rfl⟩ : ∃ q : Nat, v = q := ⟨v.toNat, by omega⟩
    obtain ⟨t, rfl⟩ : ∃ t : Nat, s = t := ⟨s.toNat, by omega⟩
    obtain ⟨n, hn, hn2, _, _⟩ := pw_nat q (by omega)
    have ea := h0
    rw [my18_hd1 hf] at ea
    obtain ⟨m, hm, rfl, hpl, op⟩ := hd1_none ea
    have htn : t < n := by rw [hn] at f4; omega
    have hpn : 2 ^ p.length = n := by
      have h := hn
      unfold pw at h
      rw [hpl]
      simpa using Int.ofNat.inj h
    have eb := my18_hd1 hf (m : Int) r
    refine ts_ok m k (hd1 m q r) q t n (by omega) hn hn2 pa ra pc rc p r h2 h3 hp hr W hP hR h0 eb (if hd1 m q r = 0 then sgn2 k p r t else (0, 0)) (sgn2 k p r t) (fun h => if_neg h) (fun h => if_pos h) ((List.range n).map (sgn k p t)) (by simp) ?_ ?_ ?_ ?_
    · intro y hy w xA xc hx
      have h := rsignat k q t n y (by omega) hn htn hy xA xc p hp (by omega) w hx
      have hg : ((List.range n).map (sgn k p t)).getD y (0, 0) = sgn k p t y := by simp [List.getD, hy]
      have hs := sgn_ws k p t y (by omega) (by omega)
      rw [hpn] at hs
      rw [hg, hs]
      exact h
    · intro w xA xc ya yc hx hy
      have h := rsign k q t n (by omega) hn htn xA ya xc yc p r hp hr (by omega) (by omega) w hx hy
      rw [sgn2_ws k p r t n hpn htn]
      exact h
    · intro w hw
      by_cases hr0 : hd1 m q r = 0
      · obtain ⟨m', _, hm', hrl, or⟩ := hd1_none hr0
        have : m' = m := by omega
        subst this
        rw [if_pos hr0, hr0, hpl, hrl]
        exact tat_ok m' hm k q t n (by omega) hn hf pa ra pc rc p r hp hr hpl hrl op or w (hP.below hw) (hR.below hw)
      · rw [if_neg hr0]
        have e2 := hd2_hd1 m q p r
        rw [if_pos (.inl ea)] at e2
        rw [← e2] at hr0 ⊢
        exact tat_err m k q t _ pa ra pc rc p r w hr0 fun w' b hb' hc hc' => thind2 m k q t hf b pa ra pc rc p r hp hr (by omega) (by omega) w' ((hP.below hw).below hb') ((hR.below hw).below hb') hc hc'
    · intro w hw
      rw [hpl]
      exact trow_ok m hm k q t n (by omega) hn hf pa pc p hp hpl op w (hP.below hw)
end Go.Proofs.Ythfebbmmhjkglaa
