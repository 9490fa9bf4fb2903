/- RingBatches over the seat's translation. -/
import Derived.Test.YtbomgcmmfeahiaaRgJ
namespace Go.Proofs.Ytbomgcmmfeahiaa
open Go.RowKit
open Cb
open Rg
open Tw (pm)

/-- What the law holds behind its calls. -/
structure Rb (W w : World) (qs qv : Nat) (s v : Nat × Nat) (g1 g2 : Option Addr) (T P : List (Nat × Nat)) : Prop where
  s : El w qs s.1 s.2
  v : El w qv v.1 v.2
  t : ERow w g1 T
  p : ERow w g2 P
  d : Below W.heap.size W w
theorem Rb.below {W w w' : World} {qs qv : Nat} {s v : Nat × Nat} {g1 g2 : Option Addr} {T P : List (Nat × Nat)} (h : Rb W w qs qv s v g1 g2 T P) (hb : Below w.heap.size w w') : Rb W w' qs qv s v g1 g2 T P := ⟨h.s.below hb, h.v.below hb, h.t.below hb, h.p.below hb, h.d.trans (hb.mono h.d.size)⟩
theorem Rb.drew {W w : World} {qs qv : Nat} {s v : Nat × Nat} {g1 g2 : Option Addr} {T P : List (Nat × Nat)} (h : Rb W w qs qv s v g1 g2 T P) : Rb W w.drew qs qv s v g1 g2 T P := h.below (Below.refl _ _).drew
theorem Rb.facts {W w : World} {qs qv : Nat} {s v : Nat × Nat} {g1 g2 : Option Addr} {T P : List (Nat × Nat)} (h : Rb W w qs qv s v g1 g2 T P) :
    w.cell? ⟨qs, 0, none⟩ = some (.int .u64 (s.1 : Int)) ∧ w.cell? ⟨qs, 1, none⟩ = some (.int .u64 (s.2 : Int)) ∧ w.cell? ⟨qv, 0, none⟩ = some (.int .u64 (v.1 : Int)) ∧ w.cell? ⟨qv, 1, none⟩ = some (.int .u64 (v.2 : Int)) := ⟨h.s.hi, h.s.lo, h.v.hi, h.v.lo⟩
set_option maxHeartbeats 2000000 in
theorem rb_far (l : Int) (a c : Option Addr) (n m cap cap2 : Nat) (h : ¬ ((l ≤ 5 ∨ 7 < l) ∧ n ≤ 40 ∧ m ≤ 6)) : Ret 4 #[.int .i64 l, .slice a n cap, .slice c m cap2] (.bool true) := by
  intro W
  have AW := hidT awake23
  by_cases h1 : l ≤ 5 ∨ 7 < l
  · have hd : (decide ((5 : Int) < l) && decide (l ≤ 7)) = false := by
      rw [Bool.and_eq_false_iff]
      rcases h1 with h1 | h1
      · left; simp; omega
      · right; simp; omega
    by_cases h2 : n ≤ 40
    · have h3 : 6 < (m : Int) := by omega
      have h2' : ¬ 40 < (n : Int) := by omega
      rcases h1 with h1 | h1
      · have h1' : ¬ 5 < l := by omega
        clear h hd
        go_enter Try.func4, Try.ntmps4
        go_wp2_with (go_at_call 9; refine (AW.out.go _).mono ?_; rintro e w2 ⟨rfl, hb2⟩)
        go_ret
        exact ⟨rfl, hb2⟩
      · have h1' : 5 < l := by omega
        have h1'' : ¬ l ≤ 7 := by omega
        clear h hd
        go_enter Try.func4, Try.ntmps4
        go_wp2_with (go_at_call 9; refine (AW.out.go _).mono ?_; rintro e w2 ⟨rfl, hb2⟩)
        go_ret
        exact ⟨rfl, hb2⟩
    · have h2' : 40 < (n : Int) := by omega
      rcases h1 with h1 | h1
      · have h1' : ¬ 5 < l := by omega
        clear h hd
        go_enter Try.func4, Try.ntmps4
        go_wp2_with (go_at_call 9; refine (AW.out.go _).mono ?_; rintro e w2 ⟨rfl, hb2⟩)
        go_ret
        exact ⟨rfl, hb2⟩
      · have h1' : 5 < l := by omega
        have h1'' : ¬ l ≤ 7 := by omega
        clear h hd
        go_enter Try.func4, Try.ntmps4
        go_wp2_with (go_at_call 9; refine (AW.out.go _).mono ?_; rintro e w2 ⟨rfl, hb2⟩)
        go_ret
        exact ⟨rfl, hb2⟩
  · have h2 : 5 < l := by omega
    have h3 : l ≤ 7 := by omega
    clear h h1
    go_enter Try.func4, Try.ntmps4
    go_wp2_with (go_at_call 9; refine (AW.out.go _).mono ?_; rintro e w2 ⟨rfl, hb2⟩)
    go_ret
    exact ⟨rfl, hb2⟩
set_option maxHeartbeats 20000000 in
set_option maxRecDepth 100000 in
theorem rb_main (l : Int) (a c : Option Addr) (cap cap2 : Nat) (t p : List (Nat × Nat)) (n1 : l ≤ 5 ∨ 7 < l) (n2 : t.length ≤ 40) (n3 : p.length ≤ 6) (lt : ltE t) (lp : ltE p) (W : World) (ra : ERow W a t) (rc : ERow W c p) :
    Calls Try.prog 4 #[.int .i64 l, .slice a t.length cap, .slice c p.length cap2] W fun e w' => e = .returned (.bool true) ∧ Below W.heap.size W w' := by
  have AW := hidT awake23
  have HR1 := hidT (fun w (hb : Below W.heap.size W w) => ref_row a cap t (by omega) w (ra.below hb))
  have HR2 := hidT (fun w (hb : Below W.heap.size W w) => ref_row c cap2 p (by omega) w (rc.below hb))
  have HB := hidT (fun w (hb : Below W.heap.size W w) => rbat_tot l a c cap cap2 t p lt lp (by omega) (by omega) w (ra.below hb) (rc.below hb))
  have HV := hidT (fun w (hb : Below W.heap.size W w) => rval_tot l a c cap cap2 t p lt lp (by omega) (by omega) w (ra.below hb) (rc.below hb))
  have HT := hidT (fun (w : World) (g1 g2 : Option Addr) (c1 c2 : Nat) (h1 : ERow w g1 t) (h2 : ERow w g2 p) => rtwo23 l g1 g2 c1 c2 t p lt lp (by omega) (by omega) w h1 h2)
  have HDB := hidT (fun (w : World) (g1 g2 : Option Addr) (c1 c2 : Nat) (h1 : ERow w g1 t) (h2 : ERow w g2 p) => rbatch23 g1 g2 c1 c2 t.length t p lt lp rfl (by omega) (by omega) w h1 h2)
  have HDV := hidT (fun (w : World) (g1 g2 : Option Addr) (c1 c2 : Nat) (h1 : ERow w g1 t) (h2 : ERow w g2 p) => rvalue_any g1 g2 c1 c2 t p lt lp (by omega) (by omega) w h1 h2)
  have HEQ : Hid (rgh l t p = 0 → 2 ^ l.toNat = t.length ∧ vl t p = vsum t.length t p) := fun h => by
    obtain ⟨k, hk, rfl, hl, _⟩ := rgh_zero h
    exact ⟨by rw [Int.toNat_natCast, hl], vl_vsum t p t.length rfl⟩
  have t40 : ¬ 40 < (t.length : Int) := by omega
  have p6 : ¬ 6 < (p.length : Int) := by omega
  have hlv : Hid (l ≤ 5 ∨ 7 < l) := n1
  clear ra rc lt lp n2 n3 n1
  generalize hE : rgh l t p = E at *
  clear hE
  generalize t.length = n at *
  generalize p.length = m at *
  have main : ∀ hl : (¬ 5 < l) ∨ (5 < l ∧ ¬ l ≤ 7), Calls Try.prog 4 #[.int .i64 l, .slice a n cap, .slice c m cap2] W fun e w' => e = .returned (.bool true) ∧ Below W.heap.size W w' := by
    intro hl
    by_cases hE : E = 0
    · subst hE
      obtain ⟨e1, e2⟩ := HEQ.out rfl
      rw [e1] at HB HV
      rw [e2] at HDV
      clear e1 e2 HEQ
      rcases hl with hl | ⟨hl, hl2⟩
      all_goals
        go_enter Try.func4, Try.ntmps4
        go_upto_region 11 with (first
          | (go_at_call_of 10 (#[.slice a n cap] : Array Value); refine (HR1.out _ (Below.refl _ _)).mono ?_; rintro e w1 ⟨g1, c1, rfl, hr1, hb1⟩; have K1 : Hid (ERow w1 g1 t ∧ Below W.heap.size W w1) := ⟨hr1, hb1⟩; clear hr1 hb1 HR1)
          | (go_at_call 10; refine (HR2.out _ K1.out.2).mono ?_; rintro e w2 ⟨g2, c2, rfl, hr2, hb2⟩; have K2 : Hid (ERow w2 g1 t ∧ ERow w2 g2 p ∧ Below W.heap.size W w2) := ⟨K1.out.1.below hb2, hr2, K1.out.2.trans (hb2.mono K1.out.2.size)⟩; clear hr2 hb2 HR2 K1)
          | (go_at_call 22; refine (HB.out _ K2.out.2.2).mono ?_; rintro e w3 ⟨s, rfl, hs1, hs2, hb3⟩; have K3 : Hid (El (w3.alloc (Obj.cells #[.int .u64 (s.1 : Int), .int .u64 (s.2 : Int)] 42)) w3.heap.size s.1 s.2 ∧ ERow (w3.alloc (Obj.cells #[.int .u64 (s.1 : Int), .int .u64 (s.2 : Int)] 42)) g1 t ∧ ERow (w3.alloc (Obj.cells #[.int .u64 (s.1 : Int), .int .u64 (s.2 : Int)] 42)) g2 p ∧ Below W.heap.size W (w3.alloc (Obj.cells #[.int .u64 (s.1 : Int), .int .u64 (s.2 : Int)] 42))) := ⟨El.newR w3 s _, (K2.out.1.below hb3).below ((Below.refl _ _).alloc (Nat.le_refl _) _), (K2.out.2.1.below hb3).below ((Below.refl _ _).alloc (Nat.le_refl _) _), (K2.out.2.2.trans (hb3.mono K2.out.2.2.size)).alloc (K2.out.2.2.trans (hb3.mono K2.out.2.2.size)).size _⟩; have Q3 := hidT (And.intro hs1 hs2); clear hs1 hs2 hb3 HB K2)
          | (go_at_call 19; refine (HV.out _ K3.out.2.2.2).mono ?_; rintro e w4 ⟨v, rfl, hv1, hv2, hb4⟩; have K4 : Hid (Rb W (w4.alloc (Obj.cells #[.int .u64 (v.1 : Int), .int .u64 (v.2 : Int)] 42)) w3.heap.size w4.heap.size s v g1 g2 t p) := ⟨(K3.out.1.below hb4).alloc _, El.newR w4 v _, (K3.out.2.1.below hb4).below ((Below.refl _ _).alloc (Nat.le_refl _) _), (K3.out.2.2.1.below hb4).below ((Below.refl _ _).alloc (Nat.le_refl _) _), (K3.out.2.2.2.trans (hb4.mono K3.out.2.2.2.size)).alloc (K3.out.2.2.2.trans (hb4.mono K3.out.2.2.2.size)).size _⟩; have Q4 := hidT (And.intro hv1 hv2); clear hv1 hv2 hb4 HV K3)
          | (go_at_call 20; refine (HT.out _ _ _ _ _ K4.out.t K4.out.p).mono ?_; rintro e w5 ⟨rfl, hb5⟩; have K5 : Hid (Rb W w5 w3.heap.size w4.heap.size s v g1 g2 t p) := K4.out.below hb5; clear hb5 K4 HT))
        obtain rfl : s = btc n t p := Q3.out.1 (by first | rfl | trivial)
        obtain rfl : v = vsum n t p := Q4.out.1 (by first | rfl | trivial)
        clear Q3 Q4
        generalize btc n t p = s at *
        generalize vsum n t p = v at *
        have K := K5.out
        clear K5
        refine wp_region_noPanic ?_
        refine wp_region_peel (S := fun w => w.cell? ⟨w3.heap.size, 0, none⟩ = some (.int .u64 (s.1 : Int)) ∧ w.cell? ⟨w3.heap.size, 1, none⟩ = some (.int .u64 (s.2 : Int)) ∧ w.cell? ⟨w4.heap.size, 0, none⟩ = some (.int .u64 (v.1 : Int)) ∧ w.cell? ⟨w4.heap.size, 1, none⟩ = some (.int .u64 (v.2 : Int))) 15 (by kernel_rfl) rfl (by kernel_rfl) ?_ (fun hHeld => ?_)
        · exact K.facts
        refine wpAnyH_ready (rs := [0]) (by kernel_rfl) (by simp) ?_
        refine AllReadyH.cons (o := _) rfl (fun KK hKK => ?_) AllReadyH.nil
        go_simp
        (go_at_call 9; refine (AW.out.go _).mono ?_; rintro e w' ⟨rfl, hb'⟩)
        have K'' := Rb.below (w' := w') (by first | exact K | exact K.drew) hb'
        clear K hb'
        have K := K''
        clear K''
        (try simp only [World.size_drew] at K)
        refine hKK.out _ _ ?_ (fun hHeld => ?_)
        · exact K.facts
        clear hKK KK
        try simp only [Act.put]
        refine wpAnyH_take (i := 1) (oi := _) (v := ?_) rfl (by kernel_rfl) (by kernel_rfl) (by kernel_rfl) (fun _ _ _ h => h) (Or.inl ⟨by rfl, ?_⟩) (by assumption) ?_
        rotate_left
        · ((intro w hSw; (try dsimp only at hSw); go_simp) <;> (try with_reducible rfl))
        try simp only [Act.put]
        refine wpAnyH_take (i := 2) (oi := _) (v := ?_) rfl (by kernel_rfl) (by kernel_rfl) (by kernel_rfl) (fun _ _ _ h => h) (Or.inl ⟨by rfl, ?_⟩) (by assumption) ?_
        rotate_left
        · ((intro w hSw; (try dsimp only at hSw); go_simp) <;> (try with_reducible rfl))
        try simp only [Act.put]
        refine wpAnyH_take (i := 3) (oi := _) (v := ?_) rfl (by kernel_rfl) (by kernel_rfl) (by kernel_rfl) (fun _ _ _ h => h) (Or.inl ⟨by rfl, ?_⟩) (by assumption) ?_
        rotate_left
        · ((intro w hSw; (try dsimp only at hSw); go_simp) <;> (try with_reducible rfl))
        try simp only [Act.put]
        refine wpAnyH_take (i := 4) (oi := _) (v := ?_) rfl (by kernel_rfl) (by kernel_rfl) (by kernel_rfl) (fun _ _ _ h => h) (Or.inl ⟨by rfl, ?_⟩) (by assumption) ?_
        rotate_left
        · ((intro w hSw; (try dsimp only at hSw); go_simp) <;> (try with_reducible rfl))
        try simp only [Act.put]
        refine wpAnyH_ready (rs := [5]) (by kernel_rfl) (by simp) ?_
        refine AllReadyH.cons (o := _) rfl (fun KK hKK => ?_) AllReadyH.nil
        go_simp
        (go_at_call 23; refine (HDB.out _ _ _ _ _ K.t K.p).mono ?_; rintro e w' ⟨rfl, hb'⟩)
        have K'' := Rb.below (w' := w') (by first | exact K | exact K.drew) hb'
        clear K hb'
        have K := K''
        clear K''
        (try simp only [World.size_drew] at K)
        refine hKK.out _ _ ?_ (fun hHeld => ?_)
        · exact K.facts
        clear hKK KK
        try simp only [Act.put]
        refine wpAnyH_take (i := 6) (oi := _) (v := ?_) rfl (by kernel_rfl) (by kernel_rfl) (by kernel_rfl) (fun _ _ _ h => h) (Or.inl ⟨by rfl, ?_⟩) (by assumption) ?_
        rotate_left
        · ((intro w hSw; (try dsimp only at hSw); go_simp) <;> (try with_reducible rfl))
        try simp only [Act.put]
        refine wpAnyH_take (i := 7) (oi := _) (v := ?_) rfl (by kernel_rfl) (by kernel_rfl) (by kernel_rfl) (fun _ _ _ h => h) (Or.inl ⟨by rfl, ?_⟩) (by assumption) ?_
        rotate_left
        · ((intro w hSw; (try dsimp only at hSw); go_simp) <;> (try with_reducible rfl))
        try simp only [Act.put]
        refine wpAnyH_take (i := 8) (oi := _) (v := ?_) rfl (by kernel_rfl) (by kernel_rfl) (by kernel_rfl) (fun _ _ _ h => h) (Or.inl ⟨by rfl, ?_⟩) (by assumption) ?_
        rotate_left
        · ((intro w hSw; (try dsimp only at hSw); go_simp) <;> (try with_reducible rfl))
        try simp only [Act.put]
        refine wpAnyH_take (i := 9) (oi := _) (v := ?_) rfl (by kernel_rfl) (by kernel_rfl) (by kernel_rfl) (fun _ _ _ h => h) (Or.inl ⟨by rfl, ?_⟩) (by assumption) ?_
        rotate_left
        · ((intro w hSw; (try dsimp only at hSw); go_simp) <;> (try with_reducible rfl))
        try simp only [Act.put]
        refine wpAnyH_take (i := 10) (oi := _) (v := ?_) rfl (by kernel_rfl) (by kernel_rfl) (by kernel_rfl) (fun _ _ _ h => h) (Or.inl ⟨by rfl, ?_⟩) (by assumption) ?_
        rotate_left
        · ((intro w hSw; (try dsimp only at hSw); go_simp) <;> (try with_reducible rfl))
        try simp only [Act.put]
        refine wpAnyH_take (i := 11) (oi := _) (v := ?_) rfl (by kernel_rfl) (by kernel_rfl) (by kernel_rfl) (fun _ _ _ h => h) (Or.inl ⟨by rfl, ?_⟩) (by assumption) ?_
        rotate_left
        · ((intro w hSw; (try dsimp only at hSw); go_simp) <;> (try with_reducible rfl))
        try simp only [Act.put]
        refine wpAnyH_ready (rs := [12]) (by kernel_rfl) (by simp) ?_
        refine AllReadyH.cons (o := _) rfl (fun KK hKK => ?_) AllReadyH.nil
        go_simp
        (go_at_call 21; refine (HDV.out _ _ _ _ _ K.t K.p).mono ?_; rintro e w' ⟨rfl, hb'⟩)
        have K'' := Rb.below (w' := w') (by first | exact K | exact K.drew) hb'
        clear K hb'
        have K := K''
        clear K''
        (try simp only [World.size_drew] at K)
        refine hKK.out _ _ ?_ (fun hHeld => ?_)
        · exact K.facts
        clear hKK KK
        try simp only [Act.put]
        refine wpAnyH_take (i := 13) (oi := _) (v := ?_) rfl (by kernel_rfl) (by kernel_rfl) (by kernel_rfl) (fun _ _ _ h => h) (Or.inl ⟨by rfl, ?_⟩) (by assumption) ?_
        rotate_left
        · ((intro w hSw; (try dsimp only at hSw); go_simp) <;> (try with_reducible rfl))
        try simp only [Act.put]
        refine wpAnyH_take (i := 14) (oi := _) (v := ?_) rfl (by kernel_rfl) (by kernel_rfl) (by kernel_rfl) (fun _ _ _ h => h) (Or.inl ⟨by rfl, ?_⟩) (by assumption) ?_
        rotate_left
        · ((intro w hSw; (try dsimp only at hSw); go_simp) <;> (try with_reducible rfl))
        try simp only [Act.put]
        refine wpAnyH_done (by kernel_rfl) ?_ _
        refine peel_last rfl (fun KK hKK => ?_)
        clear hHeld
        go_simp
        refine hKK _ _ ?_
        refine NoPanic.normal ?_
        clear hKK KK
        go_wp2
        go_ret
        exact ⟨rfl, K.d⟩
    · clear HEQ HDB HDV
      rcases hl with hl | ⟨hl, hl2⟩
      all_goals
        go_enter Try.func4, Try.ntmps4
        go_upto_region 10 with (first
          | (go_at_call_of 10 (#[.slice a n cap] : Array Value); refine (HR1.out _ (Below.refl _ _)).mono ?_; rintro e w1 ⟨g1, c1, rfl, hr1, hb1⟩; have K1 : Hid (ERow w1 g1 t ∧ Below W.heap.size W w1) := ⟨hr1, hb1⟩; clear hr1 hb1 HR1)
          | (go_at_call 10; refine (HR2.out _ K1.out.2).mono ?_; rintro e w2 ⟨g2, c2, rfl, hr2, hb2⟩; have K2 : Hid (ERow w2 g1 t ∧ ERow w2 g2 p ∧ Below W.heap.size W w2) := ⟨K1.out.1.below hb2, hr2, K1.out.2.trans (hb2.mono K1.out.2.size)⟩; clear hr2 hb2 HR2 K1)
          | (go_at_call 22; refine (HB.out _ K2.out.2.2).mono ?_; rintro e w3 ⟨s, rfl, hs1, hs2, hb3⟩; have K3 : Hid (El (w3.alloc (Obj.cells #[.int .u64 (s.1 : Int), .int .u64 (s.2 : Int)] 42)) w3.heap.size s.1 s.2 ∧ ERow (w3.alloc (Obj.cells #[.int .u64 (s.1 : Int), .int .u64 (s.2 : Int)] 42)) g1 t ∧ ERow (w3.alloc (Obj.cells #[.int .u64 (s.1 : Int), .int .u64 (s.2 : Int)] 42)) g2 p ∧ Below W.heap.size W (w3.alloc (Obj.cells #[.int .u64 (s.1 : Int), .int .u64 (s.2 : Int)] 42))) := ⟨El.newR w3 s _, (K2.out.1.below hb3).below ((Below.refl _ _).alloc (Nat.le_refl _) _), (K2.out.2.1.below hb3).below ((Below.refl _ _).alloc (Nat.le_refl _) _), (K2.out.2.2.trans (hb3.mono K2.out.2.2.size)).alloc (K2.out.2.2.trans (hb3.mono K2.out.2.2.size)).size _⟩; have Q3 := hidT (And.intro hs1 hs2); clear hs1 hs2 hb3 HB K2)
          | (go_at_call 19; refine (HV.out _ K3.out.2.2.2).mono ?_; rintro e w4 ⟨v, rfl, hv1, hv2, hb4⟩; have K4 : Hid (Rb W (w4.alloc (Obj.cells #[.int .u64 (v.1 : Int), .int .u64 (v.2 : Int)] 42)) w3.heap.size w4.heap.size s v g1 g2 t p) := ⟨(K3.out.1.below hb4).alloc _, El.newR w4 v _, (K3.out.2.1.below hb4).below ((Below.refl _ _).alloc (Nat.le_refl _) _), (K3.out.2.2.1.below hb4).below ((Below.refl _ _).alloc (Nat.le_refl _) _), (K3.out.2.2.2.trans (hb4.mono K3.out.2.2.2.size)).alloc (K3.out.2.2.2.trans (hb4.mono K3.out.2.2.2.size)).size _⟩; have Q4 := hidT (And.intro hv1 hv2); clear hv1 hv2 hb4 HV K3)
          | (go_at_call 20; refine (HT.out _ _ _ _ _ K4.out.t K4.out.p).mono ?_; rintro e w5 ⟨rfl, hb5⟩; have K5 : Hid (Rb W w5 w3.heap.size w4.heap.size s v g1 g2 t p) := K4.out.below hb5; clear hb5 K4 HT))
        obtain rfl : s = (0, 0) := Q3.out.2 hE
        obtain rfl : v = (0, 0) := Q4.out.2 hE
        clear Q3 Q4
        go_wp2_with (go_at_call 9; refine (AW.out.go _).mono ?_; rintro e w6 ⟨rfl, hb6⟩; have K6 := hidT (K5.out.below hb6); clear hb6 K5; obtain ⟨f1, f2, f3, f4⟩ := K6.out.facts)
        go_ret
        exact ⟨rfl, K6.out.d⟩
  rcases hlv.out with h | h
  · exact main (.inl (by omega))
  · exact main (.inr ⟨by omega, by omega⟩)
theorem rb_any (l : Int) (a c : Option Addr) (cap cap2 : Nat) (t p : List (Nat × Nat)) (lt : ltE t) (lp : ltE p) (W : World) (ra : ERow W a t) (rc : ERow W c p) :
    Calls Try.prog 4 #[.int .i64 l, .slice a t.length cap, .slice c p.length cap2] W fun e w' => e = .returned (.bool true) ∧ Below W.heap.size W w' := by
  by_cases h : (l ≤ 5 ∨ 7 < l) ∧ t.length ≤ 40 ∧ p.length ≤ 6
  · exact rb_main l a c cap cap2 t p h.1 h.2.1 h.2.2 lt lp W ra rc
  · exact rb_far l a c _ _ cap cap2 h W
end Go.Proofs.Ytbomgcmmfeahiaa
