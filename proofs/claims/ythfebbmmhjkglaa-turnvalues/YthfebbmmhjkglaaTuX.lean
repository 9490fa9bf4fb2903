/- TurnValues: the walk of the law over the seat's translation, where the word fits. -/
import Derived.Test.YthfebbmmhjkglaaTuW
namespace Go.Proofs.Ythfebbmmhjkglaa
open Go.RowKit
open Cb
open Tw (pm)

structure Tw4 (W w : World) (k v s : Int) (ba ea : Option Addr) (bl bc el ec : Nat) (a : Option Addr) (B : List Bool) (c : Option Addr) (sl : List (Nat × Nat)) : Prop where
  v : Tv W w k v s ba ea bl bc el ec
  b : Bow w a B
  r : ERow w c sl
theorem Tw4.below {W w w' : World} {k v s : Int} {ba ea : Option Addr} {bl bc el ec : Nat} {a : Option Addr} {B : List Bool} {c : Option Addr} {sl : List (Nat × Nat)} (h : Tw4 W w k v s ba ea bl bc el ec a B c sl) (hb : Below w.heap.size w w') : Tw4 W w' k v s ba ea bl bc el ec a B c sl := ⟨h.v.below hb, h.b.below hb, h.r.below hb⟩
theorem Tw4.drew {W w : World} {k v s : Int} {ba ea : Option Addr} {bl bc el ec : Nat} {a : Option Addr} {B : List Bool} {c : Option Addr} {sl : List (Nat × Nat)} (h : Tw4 W w k v s ba ea bl bc el ec a B c sl) : Tw4 W w.drew k v s ba ea bl bc el ec a B c sl := h.below (Below.refl _ _).drew
theorem Tw4.alloc {W w : World} {k v s : Int} {ba ea : Option Addr} {bl bc el ec : Nat} {a : Option Addr} {B : List Bool} {c : Option Addr} {sl : List (Nat × Nat)} (h : Tw4 W w k v s ba ea bl bc el ec a B c sl) (o : Obj) : Tw4 W (w.alloc o) k v s ba ea bl bc el ec a B c sl := h.below ((Below.refl _ _).alloc (Nat.le_refl _) o)
set_option maxHeartbeats 8000000 in
set_option maxRecDepth 100000 in
theorem tv_e (l k : Int) (q t n : Nat) (hq5 : q ≤ 5) (hn : pw (q : Int) = n) (hn2 : [1, 2, 4, 8, 16, 32, 64].getD q 0 = n) (hf : ftB k (q : Int) (t : Int) = true) (ba ea : Option Addr) (bc ec : Nat) (bs : List Bool) (ps : List (Nat × Nat)) (hb : bs.length = n) (hx : ¬ 5 < ps.length) (hp : ltE ps) (W : World) (hbow : Bow W ba bs) (hrow : ERow W ea ps) (c : Int) (hc : hd1 l q ps = c) (h0 : ¬ c = 0) :
    Calls Try.prog 5 #[.int .i64 l, .agg #[.int .i64 k, .int .i64 (q : Int), .int .i64 (t : Int)], .agg #[.slice ba bs.length bc, .slice ea ps.length ec]] W fun e w' => e = .returned (.bool true) ∧ Below W.heap.size W w' := by
  have HA := Hid.mkT awake18
  have K := Hid.mkT (Tv.new W k (q : Int) (t : Int) ba ea bs.length bc ps.length ec)
  have HF := Hid.mkT (rfits18 k (q : Int) (t : Int))
  rw [hf] at HF
  have g1 : (q : Int) < 6 := by omega
  have g2 : (0 : Int) ≤ (q : Int) := by omega
  have g3 : ¬ (5 : Int) < (q : Int) := by omega
  have hl2 : ((bs.length : Int) != (n : Int)) = false := by simp; omega
  have hx2 : ¬ (5 : Int) < (ps.length : Int) := by omega
  have hq : q ≤ 6 := by omega
  have hself : bs.length % n = 0 := by rw [hb]; exact Nat.mod_self n
  have hn64 := pw_le (w := (q : Int)) (by omega)
  rw [hn] at hn64
  have HBt : Hid (∀ w, Bow w ba bs → Calls Try.prog 10 #[.int .i64 k, .int .i64 (q : Int), .int .i64 (t : Int), .slice ba bs.length bc] w fun e w' => ∃ g, e = .returned (.tuple #[.slice (some ⟨g, 0, none⟩) bs.length bs.length, .int .i64 0]) ∧ Bow w' (some ⟨g, 0, none⟩) (trn n (fun i : Nat => frI k (q : Int) (t : Int) (i : Int)) bs) ∧ Below w.heap.size w w') := fun w h => tbits_ok k (q : Int) (t : Int) hf n hn ba bc bs hself (by omega) w h
  have HB0 : Hid (Bow W ba bs ∧ ERow W ea ps) := ⟨hbow, hrow⟩
  have HRw : Hid (∀ w, ERow w ea ps → Calls Try.prog 18 #[.int .i64 l, .int .i64 k, .int .i64 (q : Int), .int .i64 (t : Int), .slice ea ps.length ec] w fun e w' => e = .returned (.tuple #[.slice none 0 0, .int .i64 c]) ∧ Below w.heap.size w w') := fun w h => trow_err l k c q t hf ea ec ps hp (by omega) hc h0 w h
  have hc2 : (c != 0) = true := by simp [h0]
  clear hbow hrow hself hf hc hn hp hb hx
  go_enter Try.func5, Try.ntmps5
  go_upto_region 1 with fail
  generalize ((W.alloc (Obj.cells #[.int .i64 k, .int .i64 (q : Int), .int .i64 (t : Int)] 23)).alloc (Obj.cells #[.slice ba bs.length bc, .slice ea ps.length ec] 54)) = w0 at *
  refine wp_region_noPanic ?_
  refine wp_region_peel (S := fun w => w.cell? ⟨W.heap.size, 0, none⟩ = some (.int .i64 k) ∧ w.cell? ⟨W.heap.size, 1, none⟩ = some (.int .i64 (q : Int)) ∧ w.cell? ⟨W.heap.size, 2, none⟩ = some (.int .i64 (t : Int)) ∧ w.cell? ⟨W.heap.size + 1, 0, none⟩ = some (.slice ba bs.length bc) ∧ w.cell? ⟨W.heap.size + 1, 1, none⟩ = some (.slice ea ps.length ec)) 29 (by kernel_rfl) rfl (by kernel_rfl) ?_ (fun hHeld => ?_)
  · exact K.out.some5
  refine wpAnyH_take (i := 0) (oi := _) (v := ?_) rfl (by kernel_rfl) (by kernel_rfl) (by kernel_rfl) (fun _ _ _ h => h) (Or.inl ⟨by kernel_rfl, ?_⟩) (by assumption) ?_
  rotate_left
  · ((intro w hSw; (try dsimp only at hSw); go_simp) <;> (try with_reducible rfl))
  try simp only [Act.put]
  refine wpAnyH_take (i := 1) (oi := _) (v := ?_) rfl (by kernel_rfl) (by kernel_rfl) (by kernel_rfl) (fun _ _ _ h => h) (Or.inl ⟨by kernel_rfl, ?_⟩) (by assumption) ?_
  rotate_left
  · ((intro w hSw; (try dsimp only at hSw); go_simp) <;> (try with_reducible rfl))
  try simp only [Act.put]
  refine wpAnyH_take (i := 2) (oi := _) (v := ?_) rfl (by kernel_rfl) (by kernel_rfl) (by kernel_rfl) (fun _ _ _ h => h) (Or.inl ⟨by kernel_rfl, ?_⟩) (by assumption) ?_
  rotate_left
  · ((intro w hSw; (try dsimp only at hSw); go_simp) <;> (try with_reducible rfl))
  try simp only [Act.put]
  refine wpAnyH_take (i := 3) (oi := _) (v := ?_) rfl (by kernel_rfl) (by kernel_rfl) (by kernel_rfl) (fun _ _ _ h => h) (Or.inl ⟨by kernel_rfl, ?_⟩) (by assumption) ?_
  rotate_left
  · ((intro w hSw; (try dsimp only at hSw); go_simp) <;> (try with_reducible rfl))
  try simp only [Act.put]
  refine wpAnyH_take (i := 4) (oi := _) (v := ?_) rfl (by kernel_rfl) (by kernel_rfl) (by kernel_rfl) (fun _ _ _ h => h) (Or.inl ⟨by kernel_rfl, ?_⟩) (by assumption) ?_
  rotate_left
  · ((intro w hSw; (try dsimp only at hSw); go_simp) <;> (try with_reducible rfl))
  try simp only [Act.put]
  refine wpAnyH_take (i := 5) (oi := _) (v := ?_) rfl (by kernel_rfl) (by kernel_rfl) (by kernel_rfl) (fun _ _ _ h => h) (Or.inl ⟨by kernel_rfl, ?_⟩) (by assumption) ?_
  rotate_left
  · ((intro w hSw; (try dsimp only at hSw); go_simp) <;> (try with_reducible rfl))
  try simp only [Act.put]
  refine wpAnyH_ready (rs := [6]) (by kernel_rfl) (by simp) ?_
  refine AllReadyH.cons (o := _) rfl (fun KK hKK => ?_) AllReadyH.nil
  go_simp
  (go_at_call 12; refine (HF.out.go _).mono ?_; rintro e w1 ⟨rfl, hb1⟩)
  have K'' := Hid.mkT (Tv.below (w' := w1) (by first | exact K.out | exact K.out.drew) hb1)
  clear K hb1
  have K := K''
  clear K''
  refine hKK.out _ _ ?_ (fun hHeld => ?_)
  · exact K.out.some5
  clear hKK KK
  try simp only [Act.put]
  refine wpAnyH_take (i := 7) (oi := _) (v := ?_) rfl (by kernel_rfl) (by kernel_rfl) (by kernel_rfl) (fun _ _ _ h => h) (Or.inl ⟨by kernel_rfl, ?_⟩) (by assumption) ?_
  rotate_left
  · ((intro w hSw; (try dsimp only at hSw); go_simp) <;> (try with_reducible rfl))
  try simp only [Act.put]
  refine wpAnyH_take (i := 8) (oi := _) (v := ?_) rfl (by kernel_rfl) (by kernel_rfl) (by kernel_rfl) (fun _ _ _ h => h) (Or.inl ⟨by kernel_rfl, ?_⟩) (by assumption) ?_
  rotate_left
  · ((intro w hSw; (try dsimp only at hSw); go_simp) <;> (try with_reducible rfl))
  try simp only [Act.put]
  refine wpAnyH_take (i := 9) (oi := _) (v := ?_) rfl (by kernel_rfl) (by kernel_rfl) (by kernel_rfl) (fun _ _ _ h => h) (Or.inl ⟨by kernel_rfl, ?_⟩) (by assumption) ?_
  rotate_left
  · ((intro w hSw; (try dsimp only at hSw); go_simp) <;> (try with_reducible rfl))
  try simp only [Act.put]
  refine wpAnyH_take (i := 10) (oi := _) (v := ?_) rfl (by kernel_rfl) (by kernel_rfl) (by kernel_rfl) (fun _ _ _ h => h) (Or.inl ⟨by kernel_rfl, ?_⟩) (by assumption) ?_
  rotate_left
  · ((intro w hSw; (try dsimp only at hSw); go_simp) <;> (try with_reducible rfl))
  try simp only [Act.put]
  refine wpAnyH_take (i := 11) (oi := _) (v := ?_) rfl (by kernel_rfl) (by kernel_rfl) (by kernel_rfl) (fun _ _ _ h => h) (Or.inl ⟨by kernel_rfl, ?_⟩) (by assumption) ?_
  rotate_left
  · ((intro w hSw; (try dsimp only at hSw); go_simp) <;> (try with_reducible rfl))
  try simp only [Act.put]
  refine wpAnyH_take (i := 12) (oi := _) (v := ?_) rfl (by kernel_rfl) (by kernel_rfl) (by kernel_rfl) (fun _ _ _ h => h) (Or.inl ⟨by kernel_rfl, ?_⟩) (by assumption) ?_
  rotate_left
  · ((intro w hSw; (try dsimp only at hSw); go_simp) <;> (try with_reducible rfl))
  try simp only [Act.put]
  refine wpAnyH_take (i := 13) (oi := _) (v := ?_) rfl (by kernel_rfl) (by kernel_rfl) (by kernel_rfl) (fun _ _ _ h => h) (Or.inl ⟨by kernel_rfl, ?_⟩) (by assumption) ?_
  rotate_left
  · ((intro w hSw; (try dsimp only at hSw); go_simp) <;> (try with_reducible rfl))
  try simp only [Act.put]
  refine wpAnyH_take (i := 14) (oi := _) (v := ?_) rfl (by kernel_rfl) (by kernel_rfl) (by kernel_rfl) (fun _ _ _ h => h) (Or.inl ⟨by kernel_rfl, ?_⟩) (by assumption) ?_
  rotate_left
  · ((intro w hSw; (try dsimp only at hSw); go_simp) <;> (try with_reducible rfl))
  try simp only [Act.put]
  refine wpAnyH_take (i := 15) (oi := _) (v := ?_) rfl (by kernel_rfl) (by kernel_rfl) (by kernel_rfl) (fun _ _ _ h => h) (Or.inl ⟨by kernel_rfl, ?_⟩) (by assumption) ?_
  rotate_left
  · ((intro w hSw; (try dsimp only at hSw); go_simp) <;> (try with_reducible rfl))
  try simp only [Act.put]
  refine wpAnyH_take (i := 16) (oi := _) (v := ?_) rfl (by kernel_rfl) (by kernel_rfl) (by kernel_rfl) (fun _ _ _ h => h) (Or.inl ⟨by kernel_rfl, ?_⟩) (by assumption) ?_
  rotate_left
  · ((intro w hSw; (try dsimp only at hSw); go_simp) <;> (try with_reducible rfl))
  try simp only [Act.put]
  refine wpAnyH_take (i := 18) (oi := _) (v := ?_) rfl (by kernel_rfl) (by kernel_rfl) (by kernel_rfl) (fun _ _ _ h => h) (Or.inl ⟨by kernel_rfl, ?_⟩) (by assumption) ?_
  rotate_left
  · ((intro w hSw; (try dsimp only at hSw); go_simp) <;> (try with_reducible rfl))
  try simp only [Act.put]
  refine wpAnyH_take (i := 19) (oi := _) (v := ?_) rfl (by kernel_rfl) (by kernel_rfl) (by kernel_rfl) (fun _ _ _ h => h) (Or.inl ⟨by kernel_rfl, ?_⟩) (by assumption) ?_
  rotate_left
  · ((intro w hSw; (try dsimp only at hSw); go_simp) <;> (try with_reducible rfl))
  try simp only [Act.put]
  refine wpAnyH_ready (rs := [17]) (by kernel_rfl) (by simp) ?_
  refine AllReadyH.cons (o := _) rfl (fun KK hKK => ?_) AllReadyH.nil
  go_simp
  have K'' := Hid.mkT (K.out.alloc (Obj.cells #[.int .i64 1, .int .i64 2, .int .i64 4, .int .i64 8, .int .i64 16, .int .i64 32] 3))
  have cz := sizes6 w1 3 hq5 hn2
  clear K
  have K := K''
  clear K''
  refine hKK.out _ _ ?_ (fun hHeld => ?_)
  · exact K.out.some5
  clear hKK KK
  try simp only [Act.put]
  refine wpAnyH_take (i := 20) (oi := _) (v := ?_) rfl (by kernel_rfl) (by kernel_rfl) (by kernel_rfl) (fun _ _ _ h => h) (Or.inl ⟨by kernel_rfl, ?_⟩) (by assumption) ?_
  rotate_left
  · ((intro w hSw; (try dsimp only at hSw); go_simp) <;> (try with_reducible rfl))
  try simp only [Act.put]
  refine wpAnyH_ready (rs := [21]) (by kernel_rfl) (by simp) ?_
  refine AllReadyH.cons (o := _) rfl (fun KK hKK => ?_) AllReadyH.nil
  go_simp
  refine hKK.out _ _ ?_ (fun hHeld => ?_)
  · exact K.out.some5
  clear hKK KK cz
  try simp only [Act.put]
  refine wpAnyH_take (i := 22) (oi := _) (v := ?_) rfl (by kernel_rfl) (by kernel_rfl) (by kernel_rfl) (fun _ _ _ h => h) (Or.inl ⟨by kernel_rfl, ?_⟩) (by assumption) ?_
  rotate_left
  · ((intro w hSw; (try dsimp only at hSw); go_simp) <;> (try with_reducible rfl))
  try simp only [Act.put]
  refine wpAnyH_take (i := 23) (oi := _) (v := ?_) rfl (by kernel_rfl) (by kernel_rfl) (by kernel_rfl) (fun _ _ _ h => h) (Or.inl ⟨by kernel_rfl, ?_⟩) (by assumption) ?_
  rotate_left
  · ((intro w hSw; (try dsimp only at hSw); go_simp) <;> (try with_reducible rfl))
  try simp only [Act.put]
  refine wpAnyH_take (i := 24) (oi := _) (v := ?_) rfl (by kernel_rfl) (by kernel_rfl) (by kernel_rfl) (fun _ _ _ h => h) (Or.inl ⟨by kernel_rfl, ?_⟩) (by assumption) ?_
  rotate_left
  · ((intro w hSw; (try dsimp only at hSw); go_simp) <;> (try with_reducible rfl))
  try simp only [Act.put]
  refine wpAnyH_take (i := 25) (oi := _) (v := ?_) rfl (by kernel_rfl) (by kernel_rfl) (by kernel_rfl) (fun _ _ _ h => h) (Or.inl ⟨by kernel_rfl, ?_⟩) (by assumption) ?_
  rotate_left
  · ((intro w hSw; (try dsimp only at hSw); go_simp) <;> (try with_reducible rfl))
  try simp only [Act.put]
  refine wpAnyH_take (i := 26) (oi := _) (v := ?_) rfl (by kernel_rfl) (by kernel_rfl) (by kernel_rfl) (fun _ _ _ h => h) (Or.inl ⟨by kernel_rfl, ?_⟩) (by assumption) ?_
  rotate_left
  · ((intro w hSw; (try dsimp only at hSw); go_simp) <;> (try with_reducible rfl))
  try simp only [Act.put]
  refine wpAnyH_take (i := 27) (oi := _) (v := ?_) rfl (by kernel_rfl) (by kernel_rfl) (by kernel_rfl) (fun _ _ _ h => h) (Or.inl ⟨by kernel_rfl, ?_⟩) (by assumption) ?_
  rotate_left
  · ((intro w hSw; (try dsimp only at hSw); go_simp) <;> (try with_reducible rfl))
  try simp only [Act.put]
  refine wpAnyH_take (i := 28) (oi := _) (v := ?_) rfl (by kernel_rfl) (by kernel_rfl) (by kernel_rfl) (fun _ _ _ h => h) (Or.inl ⟨by kernel_rfl, ?_⟩) (by assumption) ?_
  rotate_left
  · ((intro w hSw; (try dsimp only at hSw); go_simp) <;> (try with_reducible rfl))
  try simp only [Act.put]
  refine wpAnyH_done (by kernel_rfl) ?_ _
  refine peel_last rfl (fun KK hKK => ?_)
  clear hHeld
  go_simp
  refine hKK _ _ ?_
  refine NoPanic.normal ?_
  clear hKK KK
  obtain ⟨⟨c0, c1, c2, _⟩, c3, c4⟩ := K.out
  go_wp2_with (first
    | (go_at_call 10; refine (HBt.out _ (HB0.out.1.below (by first | exact K.out.t.d | exact K.out.drew.t.d))).mono ?_; rintro e w2 ⟨g, rfl, R2, hb2⟩; have K2 := Hid.mkT (Tv.below (w' := w2) (by first | exact K.out | exact K.out.drew) hb2); clear hb2 R2 c0 c1 c2 c3 c4; obtain ⟨⟨c0, c1, c2, _⟩, c3, c4⟩ := K2.out)
    | (go_at_call 18; refine (HRw.out _ (HB0.out.2.below K2.out.t.d)).mono ?_; rintro e w3 ⟨rfl, hb3⟩; have K3 := Hid.mkT (K2.out.below hb3); clear hb3)
    | (go_at_call 9; refine (HA.out.go _).mono ?_; rintro e w4 ⟨rfl, hb4⟩; have D4 := Hid.mkT (K3.out.below hb4); clear hb4))
  go_ret
  exact ⟨rfl, D4.out.t.d⟩
set_option maxHeartbeats 8000000 in
set_option maxRecDepth 100000 in
theorem tv_ok (m : Nat) (hm : m < 8) (k : Int) (q t n : Nat) (hq5 : q ≤ 5) (hn : pw (q : Int) = n) (hn2 : [1, 2, 4, 8, 16, 32, 64].getD q 0 = n) (hf : ftB k (q : Int) (t : Int) = true) (ba ea : Option Addr) (bc ec : Nat) (bs : List Bool) (ps : List (Nat × Nat)) (hb : bs.length = n) (hx : ¬ 5 < ps.length) (hp : ltE ps) (W : World) (hbow : Bow W ba bs) (hrow : ERow W ea ps) (hpl : ps.length = q) (op : ofT m ps) :
    Calls Try.prog 5 #[.int .i64 (m : Int), .agg #[.int .i64 k, .int .i64 (q : Int), .int .i64 (t : Int)], .agg #[.slice ba bs.length bc, .slice ea ps.length ec]] W fun e w' => e = .returned (.bool true) ∧ Below W.heap.size W w' := by
  have HA := Hid.mkT awake18
  have K := Hid.mkT (Tv.new W k (q : Int) (t : Int) ba ea bs.length bc ps.length ec)
  have HF := Hid.mkT (rfits18 k (q : Int) (t : Int))
  rw [hf] at HF
  have g1 : (q : Int) < 6 := by omega
  have g2 : (0 : Int) ≤ (q : Int) := by omega
  have g3 : ¬ (5 : Int) < (q : Int) := by omega
  have hl2 : ((bs.length : Int) != (n : Int)) = false := by simp; omega
  have hx2 : ¬ (5 : Int) < (ps.length : Int) := by omega
  have hq : q ≤ 6 := by omega
  have hself : bs.length % n = 0 := by rw [hb]; exact Nat.mod_self n
  have hn64 := pw_le (w := (q : Int)) (by omega)
  rw [hn] at hn64
  have HBt : Hid (∀ w, Bow w ba bs → Calls Try.prog 10 #[.int .i64 k, .int .i64 (q : Int), .int .i64 (t : Int), .slice ba bs.length bc] w fun e w' => ∃ g, e = .returned (.tuple #[.slice (some ⟨g, 0, none⟩) bs.length bs.length, .int .i64 0]) ∧ Bow w' (some ⟨g, 0, none⟩) (trn n (fun i : Nat => frI k (q : Int) (t : Int) (i : Int)) bs) ∧ Below w.heap.size w w') := fun w h => tbits_ok k (q : Int) (t : Int) hf n hn ba bc bs hself (by omega) w h
  have HB0 : Hid (Bow W ba bs ∧ ERow W ea ps) := ⟨hbow, hrow⟩
  have HRw : Hid (∀ w, ERow w ea ps → Calls Try.prog 18 #[.int .i64 (m : Int), .int .i64 k, .int .i64 (q : Int), .int .i64 (t : Int), .slice ea ps.length ec] w fun e w' => ∃ g, e = .returned (.tuple #[.slice (some ⟨g, 0, none⟩) n n, .int .i64 0]) ∧ ERow w' (some ⟨g, 0, none⟩) ((List.range n).map (sgn k ps t)) ∧ Below w.heap.size w w') := fun w h => by
    rw [hpl]
    exact trow_ok m hm k q t n hq hn hf ea ec ps hp hpl op w h
  have hpow : n = 2 ^ q := by unfold pw at hn; rw [Int.toNat_natCast] at hn; omega
  obtain ⟨B, hB⟩ : ∃ B, B = trn n (fun i : Nat => frI k (q : Int) (t : Int) (i : Int)) bs := ⟨_, rfl⟩
  have lB : B.length = n := by rw [hB, trn_len, hb]
  obtain ⟨v, hv⟩ : ∃ v, v = vl (bel B) ps := ⟨_, rfl⟩
  have HEl : Hid (∀ w g, Bow w (some ⟨g, 0, none⟩) B → Calls Try.prog 24 #[.slice (some ⟨g, 0, none⟩) bs.length bs.length] w fun e w' => ∃ a' cap', e = .returned (.slice a' bs.length cap') ∧ ERow w' a' (bel B) ∧ Below w.heap.size w w') := fun w g h => by
    have := telems (some ⟨g, 0, none⟩) bs.length B (by omega) w h
    rw [lB, ← hb] at this
    exact this
  have HEb : Hid (∀ w, Bow w ba bs → Calls Try.prog 24 #[.slice ba bs.length bc] w fun e w' => ∃ a' cap', e = .returned (.slice a' bs.length cap') ∧ ERow w' a' (bel bs) ∧ Below w.heap.size w w') := fun w h => telems ba bc bs (by omega) w h
  have HCA : Hid (∀ w a' cap', ERow w a' (bel B) → ERow w ea ps → Calls Try.prog 23 #[.int .i64 (m : Int), .slice a' bs.length cap', .slice ea ps.length ec] w fun e w' => e = .returned (.tuple #[.agg #[.int .u64 (v.1 : Int), .int .u64 (v.2 : Int)], .int .i64 0]) ∧ Below w.heap.size w w') := fun w a' cap' h1 h2 => by
    have hl : (bel B).length = 2 ^ ps.length := by rw [bel_len, lB, hpl]; exact hpow
    have := at_ok m hm a' ea cap' ec (bel B) ps (lt_bel B) hp (by rw [bel_len]; omega) (by omega) hl (of_bel hm B) op v (by rw [hv]; exact firsts_vl ps (bel B) hl (lt_bel B) hp) w h1 h2
    rw [bel_len, lB, ← hb] at this
    exact this
  have HDt : Hid (∀ w g a' cap', ERow w (some ⟨g, 0, none⟩) ((List.range n).map (sgn k ps t)) → ERow w a' (bel bs) → Calls Try.prog 25 #[.int .i64 (m : Int), .slice (some ⟨g, 0, none⟩) n n, .slice a' bs.length cap'] w fun e w' => e = .returned (.agg #[.int .u64 (v.1 : Int), .int .u64 (v.2 : Int)]) ∧ Below w.heap.size w w') := fun w g a' cap' h1 h2 => by
    have hsl : ((List.range n).map (sgn k ps t)).length = n := by simp
    have hel : ∀ y, y < n → el ((List.range n).map (sgn k ps t)) y = sgn k ps t y := fun y hy => by simp [el, List.getD, hy]
    have lsg : ltE ((List.range n).map (sgn k ps t)) := fun e he => by
      obtain ⟨y, _, rfl⟩ := List.mem_map.1 he
      unfold sgn
      split
      · exact lt_xa (lt_cr _ _ _ _ _) (lt_cr _ _ _ _ _)
      · exact lt_cr _ _ _ _ _
    have osg : ∀ y, ofE m (sgn k ps t y) := fun y => by
      unfold sgn
      split
      · exact of_xor hm (of_cr hm _ op _ _ _) (of_cr hm _ op _ _ _)
      · exact of_cr hm _ op _ _ _
    have := dot_any (m : Int) (some ⟨g, 0, none⟩) a' n cap' ((List.range n).map (sgn k ps t)) (bel bs) lsg (lt_bel bs) (by rw [hsl]; omega) w h1 h2
    rw [dotv_rt (by rw [hsl, bel_len, hb]) (fun j hj => ⟨by
      rw [hsl] at hj
      have h3 := osg j
      rw [← hel j hj] at h3
      exact h3, (of_bel hm bs).el hm j⟩), dots_xs, hsl, bel_len] at this
    rw [show xs n (fun y => pm (el ((List.range n).map (sgn k ps t)) y) (el (bel bs) y)) = v from by
      rw [hv, hB, ← signs_bits k q n t hn hf ps hpl bs hb]
      exact xs_congr _ fun y hy => by rw [hel y hy]] at this
    exact this
  rw [← hB] at HBt
  clear hbow hrow hself hf hn hp op hpl hpow hB lB hv hb hx
  go_enter Try.func5, Try.ntmps5
  go_upto_region 1 with fail
  generalize ((W.alloc (Obj.cells #[.int .i64 k, .int .i64 (q : Int), .int .i64 (t : Int)] 23)).alloc (Obj.cells #[.slice ba bs.length bc, .slice ea ps.length ec] 54)) = w0 at *
  refine wp_region_noPanic ?_
  refine wp_region_peel (S := fun w => w.cell? ⟨W.heap.size, 0, none⟩ = some (.int .i64 k) ∧ w.cell? ⟨W.heap.size, 1, none⟩ = some (.int .i64 (q : Int)) ∧ w.cell? ⟨W.heap.size, 2, none⟩ = some (.int .i64 (t : Int)) ∧ w.cell? ⟨W.heap.size + 1, 0, none⟩ = some (.slice ba bs.length bc) ∧ w.cell? ⟨W.heap.size + 1, 1, none⟩ = some (.slice ea ps.length ec)) 29 (by kernel_rfl) rfl (by kernel_rfl) ?_ (fun hHeld => ?_)
  · exact K.out.some5
  refine wpAnyH_take (i := 0) (oi := _) (v := ?_) rfl (by kernel_rfl) (by kernel_rfl) (by kernel_rfl) (fun _ _ _ h => h) (Or.inl ⟨by kernel_rfl, ?_⟩) (by assumption) ?_
  rotate_left
  · ((intro w hSw; (try dsimp only at hSw); go_simp) <;> (try with_reducible rfl))
  try simp only [Act.put]
  refine wpAnyH_take (i := 1) (oi := _) (v := ?_) rfl (by kernel_rfl) (by kernel_rfl) (by kernel_rfl) (fun _ _ _ h => h) (Or.inl ⟨by kernel_rfl, ?_⟩) (by assumption) ?_
  rotate_left
  · ((intro w hSw; (try dsimp only at hSw); go_simp) <;> (try with_reducible rfl))
  try simp only [Act.put]
  refine wpAnyH_take (i := 2) (oi := _) (v := ?_) rfl (by kernel_rfl) (by kernel_rfl) (by kernel_rfl) (fun _ _ _ h => h) (Or.inl ⟨by kernel_rfl, ?_⟩) (by assumption) ?_
  rotate_left
  · ((intro w hSw; (try dsimp only at hSw); go_simp) <;> (try with_reducible rfl))
  try simp only [Act.put]
  refine wpAnyH_take (i := 3) (oi := _) (v := ?_) rfl (by kernel_rfl) (by kernel_rfl) (by kernel_rfl) (fun _ _ _ h => h) (Or.inl ⟨by kernel_rfl, ?_⟩) (by assumption) ?_
  rotate_left
  · ((intro w hSw; (try dsimp only at hSw); go_simp) <;> (try with_reducible rfl))
  try simp only [Act.put]
  refine wpAnyH_take (i := 4) (oi := _) (v := ?_) rfl (by kernel_rfl) (by kernel_rfl) (by kernel_rfl) (fun _ _ _ h => h) (Or.inl ⟨by kernel_rfl, ?_⟩) (by assumption) ?_
  rotate_left
  · ((intro w hSw; (try dsimp only at hSw); go_simp) <;> (try with_reducible rfl))
  try simp only [Act.put]
  refine wpAnyH_take (i := 5) (oi := _) (v := ?_) rfl (by kernel_rfl) (by kernel_rfl) (by kernel_rfl) (fun _ _ _ h => h) (Or.inl ⟨by kernel_rfl, ?_⟩) (by assumption) ?_
  rotate_left
  · ((intro w hSw; (try dsimp only at hSw); go_simp) <;> (try with_reducible rfl))
  try simp only [Act.put]
  refine wpAnyH_ready (rs := [6]) (by kernel_rfl) (by simp) ?_
  refine AllReadyH.cons (o := _) rfl (fun KK hKK => ?_) AllReadyH.nil
  go_simp
  (go_at_call 12; refine (HF.out.go _).mono ?_; rintro e w1 ⟨rfl, hb1⟩)
  have K'' := Hid.mkT (Tv.below (w' := w1) (by first | exact K.out | exact K.out.drew) hb1)
  clear K hb1
  have K := K''
  clear K''
  refine hKK.out _ _ ?_ (fun hHeld => ?_)
  · exact K.out.some5
  clear hKK KK
  try simp only [Act.put]
  refine wpAnyH_take (i := 7) (oi := _) (v := ?_) rfl (by kernel_rfl) (by kernel_rfl) (by kernel_rfl) (fun _ _ _ h => h) (Or.inl ⟨by kernel_rfl, ?_⟩) (by assumption) ?_
  rotate_left
  · ((intro w hSw; (try dsimp only at hSw); go_simp) <;> (try with_reducible rfl))
  try simp only [Act.put]
  refine wpAnyH_take (i := 8) (oi := _) (v := ?_) rfl (by kernel_rfl) (by kernel_rfl) (by kernel_rfl) (fun _ _ _ h => h) (Or.inl ⟨by kernel_rfl, ?_⟩) (by assumption) ?_
  rotate_left
  · ((intro w hSw; (try dsimp only at hSw); go_simp) <;> (try with_reducible rfl))
  try simp only [Act.put]
  refine wpAnyH_take (i := 9) (oi := _) (v := ?_) rfl (by kernel_rfl) (by kernel_rfl) (by kernel_rfl) (fun _ _ _ h => h) (Or.inl ⟨by kernel_rfl, ?_⟩) (by assumption) ?_
  rotate_left
  · ((intro w hSw; (try dsimp only at hSw); go_simp) <;> (try with_reducible rfl))
  try simp only [Act.put]
  refine wpAnyH_take (i := 10) (oi := _) (v := ?_) rfl (by kernel_rfl) (by kernel_rfl) (by kernel_rfl) (fun _ _ _ h => h) (Or.inl ⟨by kernel_rfl, ?_⟩) (by assumption) ?_
  rotate_left
  · ((intro w hSw; (try dsimp only at hSw); go_simp) <;> (try with_reducible rfl))
  try simp only [Act.put]
  refine wpAnyH_take (i := 11) (oi := _) (v := ?_) rfl (by kernel_rfl) (by kernel_rfl) (by kernel_rfl) (fun _ _ _ h => h) (Or.inl ⟨by kernel_rfl, ?_⟩) (by assumption) ?_
  rotate_left
  · ((intro w hSw; (try dsimp only at hSw); go_simp) <;> (try with_reducible rfl))
  try simp only [Act.put]
  refine wpAnyH_take (i := 12) (oi := _) (v := ?_) rfl (by kernel_rfl) (by kernel_rfl) (by kernel_rfl) (fun _ _ _ h => h) (Or.inl ⟨by kernel_rfl, ?_⟩) (by assumption) ?_
  rotate_left
  · ((intro w hSw; (try dsimp only at hSw); go_simp) <;> (try with_reducible rfl))
  try simp only [Act.put]
  refine wpAnyH_take (i := 13) (oi := _) (v := ?_) rfl (by kernel_rfl) (by kernel_rfl) (by kernel_rfl) (fun _ _ _ h => h) (Or.inl ⟨by kernel_rfl, ?_⟩) (by assumption) ?_
  rotate_left
  · ((intro w hSw; (try dsimp only at hSw); go_simp) <;> (try with_reducible rfl))
  try simp only [Act.put]
  refine wpAnyH_take (i := 14) (oi := _) (v := ?_) rfl (by kernel_rfl) (by kernel_rfl) (by kernel_rfl) (fun _ _ _ h => h) (Or.inl ⟨by kernel_rfl, ?_⟩) (by assumption) ?_
  rotate_left
  · ((intro w hSw; (try dsimp only at hSw); go_simp) <;> (try with_reducible rfl))
  try simp only [Act.put]
  refine wpAnyH_take (i := 15) (oi := _) (v := ?_) rfl (by kernel_rfl) (by kernel_rfl) (by kernel_rfl) (fun _ _ _ h => h) (Or.inl ⟨by kernel_rfl, ?_⟩) (by assumption) ?_
  rotate_left
  · ((intro w hSw; (try dsimp only at hSw); go_simp) <;> (try with_reducible rfl))
  try simp only [Act.put]
  refine wpAnyH_take (i := 16) (oi := _) (v := ?_) rfl (by kernel_rfl) (by kernel_rfl) (by kernel_rfl) (fun _ _ _ h => h) (Or.inl ⟨by kernel_rfl, ?_⟩) (by assumption) ?_
  rotate_left
  · ((intro w hSw; (try dsimp only at hSw); go_simp) <;> (try with_reducible rfl))
  try simp only [Act.put]
  refine wpAnyH_take (i := 18) (oi := _) (v := ?_) rfl (by kernel_rfl) (by kernel_rfl) (by kernel_rfl) (fun _ _ _ h => h) (Or.inl ⟨by kernel_rfl, ?_⟩) (by assumption) ?_
  rotate_left
  · ((intro w hSw; (try dsimp only at hSw); go_simp) <;> (try with_reducible rfl))
  try simp only [Act.put]
  refine wpAnyH_take (i := 19) (oi := _) (v := ?_) rfl (by kernel_rfl) (by kernel_rfl) (by kernel_rfl) (fun _ _ _ h => h) (Or.inl ⟨by kernel_rfl, ?_⟩) (by assumption) ?_
  rotate_left
  · ((intro w hSw; (try dsimp only at hSw); go_simp) <;> (try with_reducible rfl))
  try simp only [Act.put]
  refine wpAnyH_ready (rs := [17]) (by kernel_rfl) (by simp) ?_
  refine AllReadyH.cons (o := _) rfl (fun KK hKK => ?_) AllReadyH.nil
  go_simp
  have K'' := Hid.mkT (K.out.alloc (Obj.cells #[.int .i64 1, .int .i64 2, .int .i64 4, .int .i64 8, .int .i64 16, .int .i64 32] 3))
  have cz := sizes6 w1 3 hq5 hn2
  clear K
  have K := K''
  clear K''
  refine hKK.out _ _ ?_ (fun hHeld => ?_)
  · exact K.out.some5
  clear hKK KK
  try simp only [Act.put]
  refine wpAnyH_take (i := 20) (oi := _) (v := ?_) rfl (by kernel_rfl) (by kernel_rfl) (by kernel_rfl) (fun _ _ _ h => h) (Or.inl ⟨by kernel_rfl, ?_⟩) (by assumption) ?_
  rotate_left
  · ((intro w hSw; (try dsimp only at hSw); go_simp) <;> (try with_reducible rfl))
  try simp only [Act.put]
  refine wpAnyH_ready (rs := [21]) (by kernel_rfl) (by simp) ?_
  refine AllReadyH.cons (o := _) rfl (fun KK hKK => ?_) AllReadyH.nil
  go_simp
  refine hKK.out _ _ ?_ (fun hHeld => ?_)
  · exact K.out.some5
  clear hKK KK cz
  try simp only [Act.put]
  refine wpAnyH_take (i := 22) (oi := _) (v := ?_) rfl (by kernel_rfl) (by kernel_rfl) (by kernel_rfl) (fun _ _ _ h => h) (Or.inl ⟨by kernel_rfl, ?_⟩) (by assumption) ?_
  rotate_left
  · ((intro w hSw; (try dsimp only at hSw); go_simp) <;> (try with_reducible rfl))
  try simp only [Act.put]
  refine wpAnyH_take (i := 23) (oi := _) (v := ?_) rfl (by kernel_rfl) (by kernel_rfl) (by kernel_rfl) (fun _ _ _ h => h) (Or.inl ⟨by kernel_rfl, ?_⟩) (by assumption) ?_
  rotate_left
  · ((intro w hSw; (try dsimp only at hSw); go_simp) <;> (try with_reducible rfl))
  try simp only [Act.put]
  refine wpAnyH_take (i := 24) (oi := _) (v := ?_) rfl (by kernel_rfl) (by kernel_rfl) (by kernel_rfl) (fun _ _ _ h => h) (Or.inl ⟨by kernel_rfl, ?_⟩) (by assumption) ?_
  rotate_left
  · ((intro w hSw; (try dsimp only at hSw); go_simp) <;> (try with_reducible rfl))
  try simp only [Act.put]
  refine wpAnyH_take (i := 25) (oi := _) (v := ?_) rfl (by kernel_rfl) (by kernel_rfl) (by kernel_rfl) (fun _ _ _ h => h) (Or.inl ⟨by kernel_rfl, ?_⟩) (by assumption) ?_
  rotate_left
  · ((intro w hSw; (try dsimp only at hSw); go_simp) <;> (try with_reducible rfl))
  try simp only [Act.put]
  refine wpAnyH_take (i := 26) (oi := _) (v := ?_) rfl (by kernel_rfl) (by kernel_rfl) (by kernel_rfl) (fun _ _ _ h => h) (Or.inl ⟨by kernel_rfl, ?_⟩) (by assumption) ?_
  rotate_left
  · ((intro w hSw; (try dsimp only at hSw); go_simp) <;> (try with_reducible rfl))
  try simp only [Act.put]
  refine wpAnyH_take (i := 27) (oi := _) (v := ?_) rfl (by kernel_rfl) (by kernel_rfl) (by kernel_rfl) (fun _ _ _ h => h) (Or.inl ⟨by kernel_rfl, ?_⟩) (by assumption) ?_
  rotate_left
  · ((intro w hSw; (try dsimp only at hSw); go_simp) <;> (try with_reducible rfl))
  try simp only [Act.put]
  refine wpAnyH_take (i := 28) (oi := _) (v := ?_) rfl (by kernel_rfl) (by kernel_rfl) (by kernel_rfl) (fun _ _ _ h => h) (Or.inl ⟨by kernel_rfl, ?_⟩) (by assumption) ?_
  rotate_left
  · ((intro w hSw; (try dsimp only at hSw); go_simp) <;> (try with_reducible rfl))
  try simp only [Act.put]
  refine wpAnyH_done (by kernel_rfl) ?_ _
  refine peel_last rfl (fun KK hKK => ?_)
  clear hHeld
  go_simp
  refine hKK _ _ ?_
  refine NoPanic.normal ?_
  clear hKK KK
  obtain ⟨⟨c0, c1, c2, _⟩, c3, c4⟩ := K.out
  go_wp2_with (first
    | (go_at_call 10; refine (HBt.out _ (HB0.out.1.below (by first | exact K.out.t.d | exact K.out.drew.t.d))).mono ?_; rintro e w2 ⟨g, rfl, R2, hb2⟩; have K2 : Hid (Tv W w2 k (q : Int) (t : Int) ba ea bs.length bc ps.length ec ∧ Bow w2 (some ⟨g, 0, none⟩) B) := ⟨Tv.below (w' := w2) (by first | exact K.out | exact K.out.drew) hb2, R2⟩; clear hb2 R2 c0 c1 c2 c3 c4; obtain ⟨⟨c0, c1, c2, _⟩, c3, c4⟩ := K2.out.1)
    | (go_at_call 18; refine (HRw.out _ (HB0.out.2.below K2.out.1.t.d)).mono ?_; rintro e w3 ⟨gr, rfl, R3, hb3⟩; have K3 : Hid (Tw4 W w3 k (q : Int) (t : Int) ba ea bs.length bc ps.length ec (some ⟨g, 0, none⟩) B (some ⟨gr, 0, none⟩) ((List.range n).map (sgn k ps t))) := ⟨K2.out.1.below hb3, K2.out.2.below hb3, R3⟩; clear hb3 R3))
  clear c0 c1 c2 c3 c4 HBt HRw HF K K2
  generalize (List.range n).map (sgn k ps t) = sl at *
  have K0 := K3
  clear K3
  have hWW : W.heap.size + 1 < w3.heap.size := cell_lt K0.out.v.e
  go_cut [11, 12] (fun p11 p12 wx => ∃ q11 : Nat, p11 = .pointer (some ⟨q11, 0, none⟩) ∧ p12 = .int .i64 0 ∧ Hid (El wx q11 v.1 v.2 ∧ Tw4 W wx k (q : Int) (t : Int) ba ea bs.length bc ps.length ec (some ⟨g, 0, none⟩) B (some ⟨gr, 0, none⟩) sl))
  case first =>
    have c4 := K0.out.v.e
    go_region_held3 (fun w => w.cell? ⟨W.heap.size + 1, 1, none⟩ = some (.slice ea ps.length ec)) (first | (go_keep; done) | exact (K0.out.below ((E6.out.setCell (Nat.le_refl _) _).setCell (Nat.le_refl _) _)).v.e | exact (K0.out.below ((E6.out.setCell E5.out.size _).setCell E5.out.size _)).v.e) (first | (go_at_call 24; refine (HEl.out _ _ (K0.out.b.below (by first | exact Below.refl _ _ | exact (Below.refl _ _).drew | exact (Below.refl _ _).alloc (Nat.le_refl _) _ | exact (Below.refl _ _).drew.alloc (by simp) _ | exact ((Below.refl _ _).alloc (Nat.le_refl _) _).drew))).mono ?_; rintro e w5 ⟨a9, cap9, rfl, R9, hb5⟩; have E5 : Hid (Below w3.heap.size w3 w5) := (by first | exact hb5 | exact ((Below.refl w3.heap.size w3).drew).trans (hb5.mono (by simp)) | exact ((Below.refl w3.heap.size w3).alloc (Nat.le_refl _) _).trans (hb5.mono (by simp)) | exact ((Below.refl w3.heap.size w3).drew.alloc (by simp) _).trans (hb5.mono (by simp)) | exact (((Below.refl w3.heap.size w3).alloc (Nat.le_refl _) _).drew).trans (hb5.mono (by simp))); (first | (have Bq : Ew w5 w3.heap.size 0 0 := (by first | exact (Ew.new0 w3 _).below hb5 | exact (Ew.new0 w3.drew _).below hb5 | exact ((Ew.new0 w3 _).below (Below.refl _ _).drew).below hb5); obtain ⟨⟨v1, v2⟩, v3, v4⟩ := Bq) | skip); have E9 : Hid (ERow w5 a9 (bel B)) := R9; clear R9 hb5 c4; have c4 := (K0.out.below E5.out).v.e) | (go_at_call 23; refine (HCA.out _ _ _ (by first | exact E9.out | exact E9.out.drew | exact E9.out.below ((Below.refl _ _).alloc (Nat.le_refl _) _)) (HB0.out.2.below ((K0.out.below (by first | exact E5.out | exact E5.out.alloc E5.out.size _ | exact E5.out.drew)).v.t.d))).mono ?_; rintro e w6 ⟨rfl, hb6⟩; have E6 : Hid (Below w3.heap.size w3 w6) := (by first | exact E5.out.trans (hb6.mono E5.out.size) | exact (E5.out.alloc E5.out.size _).trans (hb6.mono (by have := E5.out.size; simp; omega))); (first | (have Bq : Ew w6 w5.heap.size 0 0 := (Ew.new0 w5 _).below hb6; obtain ⟨⟨s1, s2⟩, s3, s4⟩ := Bq) | (have Bq : Ew w6 w3.heap.size 0 0 := Ew.below ⟨⟨v1, v2⟩, v3, v4⟩ hb6; clear v1 v2 v3 v4; obtain ⟨⟨v1, v2⟩, v3, v4⟩ := Bq) | skip); clear hb6 c4; have c4 := (K0.out.below E6.out).v.e))
    all_goals
      go_wp2_with fail
      go_meet
      first
        | exact ⟨_, rfl, rfl, ⟨⟨by simp [go_sem], by simp [go_sem]⟩, (K0.out.below E6.out).alloc _⟩⟩
        | exact ⟨_, rfl, rfl, ⟨⟨by simp [go_sem, *], by simp [go_sem, *]⟩, K0.out.below ((E6.out.setCell (Nat.le_refl _) _).setCell (Nat.le_refl _) _)⟩⟩
        | exact ⟨_, rfl, rfl, ⟨⟨by simp [go_sem, *], by simp [go_sem, *]⟩, K0.out.below ((E6.out.setCell E5.out.size _).setCell E5.out.size _)⟩⟩
  case rest =>
    obtain ⟨q11, rfl, rfl, K⟩ := hcut
    clear K0 HEl HCA hWW
    obtain ⟨v1, v0⟩ := K.out.1
    have c3 := K.out.2.v.b
    go_upto_region 10 with fail
    go_region_held3 (fun w => w.cell? ⟨q11, 0, none⟩ = some (.int .u64 (v.1 : Int)) ∧ w.cell? ⟨q11, 1, none⟩ = some (.int .u64 (v.2 : Int)) ∧ w.cell? ⟨W.heap.size + 1, 0, none⟩ = some (.slice ba bs.length bc)) (go_keep) (first | (go_at_call 9; refine (HA.out.go _).mono ?_; rintro e w' ⟨rfl, hb'⟩; have K' : Hid (El w' q11 v.1 v.2 ∧ Tw4 W w' k (q : Int) (t : Int) ba ea bs.length bc ps.length ec (some ⟨g, 0, none⟩) B (some ⟨gr, 0, none⟩) sl) := (by first | exact ⟨K.out.1.below hb', K.out.2.below hb'⟩ | exact ⟨K.out.1.drew.below hb', K.out.2.drew.below hb'⟩); clear v1 v0 c3 K hb'; have K := K'; clear K'; obtain ⟨v1, v0⟩ := K.out.1; have c3 := K.out.2.v.b) | (go_at_call 24; refine (HEb.out _ (HB0.out.1.below (by first | exact K.out.2.v.t.d | exact K.out.2.drew.v.t.d))).mono ?_; rintro e w' ⟨a9, cap9, rfl, R9, hb'⟩; have E9 : Hid (ERow w' a9 (bel bs)) := R9; clear R9; have K' : Hid (El w' q11 v.1 v.2 ∧ Tw4 W w' k (q : Int) (t : Int) ba ea bs.length bc ps.length ec (some ⟨g, 0, none⟩) B (some ⟨gr, 0, none⟩) sl) := (by first | exact ⟨K.out.1.below hb', K.out.2.below hb'⟩ | exact ⟨K.out.1.drew.below hb', K.out.2.drew.below hb'⟩); clear v1 v0 c3 K hb'; have K := K'; clear K'; obtain ⟨v1, v0⟩ := K.out.1; have c3 := K.out.2.v.b) | (go_at_call 25; refine (HDt.out _ _ _ _ (by first | exact K.out.2.r | exact K.out.2.drew.r) (by first | exact E9.out | exact E9.out.drew)).mono ?_; rintro e w' ⟨rfl, hb'⟩; clear E9; have K' : Hid (El w' q11 v.1 v.2 ∧ Tw4 W w' k (q : Int) (t : Int) ba ea bs.length bc ps.length ec (some ⟨g, 0, none⟩) B (some ⟨gr, 0, none⟩) sl) := (by first | exact ⟨K.out.1.below hb', K.out.2.below hb'⟩ | exact ⟨K.out.1.drew.below hb', K.out.2.drew.below hb'⟩); clear v1 v0 c3 K hb'; have K := K'; clear K'; obtain ⟨v1, v0⟩ := K.out.1; have c3 := K.out.2.v.b))
    go_wp2
    go_ret
    refine ⟨?_, by first | exact K.out.2.v.t.d | exact K.out.2.drew.v.t.d⟩
    simp
end Go.Proofs.Ythfebbmmhjkglaa
