/- Contracts of talk.New, State and Say over the seat's translation, and of all calls of a nil transcript. -/
import Derived.Test.YtopmkooegpaeaaaGreatSsA
import Derived.Test.YtopmkooegpaeaaaGreatPeel
namespace Go.Proofs.YtopmkooegpaeaaaGreat
open Go.RowKit

/-- A transcript in the block q. -/
structure Tk (w : World) (q g : Nat) (s : ByteArray) : Prop where
  p : w.cell? ⟨q, 0, none⟩ = some (.pointer (some ⟨g, 0, none⟩))
  s : w.cell? ⟨q, 1, none⟩ = some (.string s)
  f : w.frozen? ⟨q, 1, none⟩ = false
theorem Tk.below {w w' : World} {q g : Nat} {s : ByteArray} (h : Tk w q g s) (hb : Below w.heap.size w w') : Tk w' q g s := ⟨keepc hb h.p, keepc hb h.s, keepf hb h.s h.f⟩
theorem Tk.set {w : World} {q g : Nat} {s : ByteArray} (h : Tk w q g s) (t : ByteArray) : Tk (w.setCell ⟨q, 1, none⟩ (.string t)) q g t := by
  obtain ⟨h1, h2, h3⟩ := h
  exact ⟨by simp [go_sem, *], by simp [go_sem, *], by simp [go_sem, *]⟩
theorem Tk.other {w : World} {q g r : Nat} {s : ByteArray} (h : Tk w q g s) (hn : r ≠ q) (v : Value) : Tk (w.setCell ⟨r, 1, none⟩ v) q g s := by
  obtain ⟨h1, h2, h3⟩ := h
  have hn' : q ≠ r := fun h => hn h.symm
  exact ⟨by simp [go_sem, *], by simp [go_sem, *], by simp [go_sem, *]⟩
theorem Tk.lt {w : World} {q g : Nat} {s : ByteArray} (h : Tk w q g s) : q < w.heap.size := cell_lt h.p
theorem tab_set {w : World} {g r : Nat} (h : Tab w g) (hn : g ≠ r) (v : Value) : Tab (w.setCell ⟨r, 1, none⟩ v) g := World.rowIs.setOther h hn v
/-- The state of a new transcript, and behind something that is said. -/
def nws (n : ByteArray) : ByteArray := smv ⟨(listL [ByteArray.mk #[110, 101, 119], n]).toArray⟩
def sys (s l t : ByteArray) : ByteArray := smv ⟨(listL [s, ByteArray.mk #[115, 97, 121], l, t]).toArray⟩
theorem smv_size (s : ByteArray) : (smv s).size = 32 := fin_size _ _ _
theorem str2 {w : World} {b : Nat} {s t : ByteArray} (h0 : w.cell? ⟨b, 0, none⟩ = some (.string s)) (h1 : w.cell? ⟨b, 1, none⟩ = some (.string t)) : StrRow w (some ⟨b, 0, none⟩) [s, t] :=
  .inr ⟨b, 0, rfl, cell_lt h0, fun i hi => by
    simp at hi
    obtain rfl | rfl : i = 0 ∨ i = 1 := by omega
    · exact h0
    · exact h1⟩
theorem str4 {w : World} {b : Nat} {s t u v : ByteArray} (h0 : w.cell? ⟨b, 0, none⟩ = some (.string s)) (h1 : w.cell? ⟨b, 1, none⟩ = some (.string t)) (h2 : w.cell? ⟨b, 2, none⟩ = some (.string u)) (h3 : w.cell? ⟨b, 3, none⟩ = some (.string v)) : StrRow w (some ⟨b, 0, none⟩) [s, t, u, v] :=
  .inr ⟨b, 0, rfl, cell_lt h0, fun i hi => by
    simp at hi
    obtain rfl | rfl | rfl | rfl : i = 0 ∨ i = 1 ∨ i = 2 ∨ i = 3 := by omega
    · exact h0
    · exact h1
    · exact h2
    · exact h3⟩
theorem tstate_nil : Same 12 #[.pointer none] (.string (ByteArray.mk #[])) := by
  intro W
  go_enter Tryz.func12, Tryz.ntmps12
  go_wp2
  go_ret
  exact ⟨rfl, rfl⟩
theorem tstate (q g : Nat) (s : ByteArray) (W : World) (h : Tk W q g s) : Calls Tryz.prog 12 #[.pointer (some ⟨q, 0, none⟩)] W fun e w' => e = .returned (.string s) ∧ w' = W := by
  have h1 := h.s
  go_enter Tryz.func12, Tryz.ntmps12
  go_wp2
  go_ret
  exact ⟨rfl, rfl⟩
theorem tsay_nil (l t : ByteArray) : Same 18 #[.pointer none, .string l, .string t] (.int .i64 1) := by
  intro W
  go_enter Tryz.func18, Tryz.ntmps18
  go_wp2
  go_ret
  exact ⟨rfl, rfl⟩
theorem tplaces_nil (h q : Int) : Same 17 #[.pointer none, .int .i64 h, .int .i64 q] (.slice none 0 0) := by
  intro W
  go_enter Tryz.func17, Tryz.ntmps17
  go_wp2
  go_ret
  exact ⟨rfl, rfl⟩
theorem tnew_nil (n : ByteArray) : Same 8 #[.pointer none, .string n] (.pointer none) := by
  intro W
  go_enter Tryz.func8, Tryz.ntmps8
  go_wp2
  go_ret
  exact ⟨rfl, rfl⟩
/-- What lies in memory: the transcript and its tables. -/
structure Ts (W w : World) (q g : Nat) (s : ByteArray) : Prop where
  k : Tk w q g s
  t : Tab w g
  d : Below W.heap.size W w
theorem Ts.below {W w w' : World} {q g : Nat} {s : ByteArray} (h : Ts W w q g s) (hb : Below w.heap.size w w') : Ts W w' q g s := ⟨h.k.below hb, h.t.below hb, h.d.trans (hb.mono h.d.size)⟩
theorem Ts.drew {W w : World} {q g : Nat} {s : ByteArray} (h : Ts W w q g s) : Ts W w.drew q g s := h.below (Below.refl _ _).drew
set_option maxHeartbeats 4000000 in
set_option maxRecDepth 100000 in
theorem tnew (g : Nat) (n : ByteArray) (hn : n.size ≤ 1000) (W : World) (hT : Tab W g) :
    Calls Tryz.prog 8 #[.pointer (some ⟨g, 0, none⟩), .string n] W fun e w' => ∃ q, e = .returned (.pointer (some ⟨q, 0, none⟩)) ∧ W.heap.size ≤ q ∧ Tk w' q g (nws n) ∧ Tab w' g ∧ Below W.heap.size W w' := by
  have HP : Hid (∀ w b, Tab w g → w.cell? ⟨b, 0, none⟩ = some (.string (ByteArray.mk #[110, 101, 119])) → w.cell? ⟨b, 1, none⟩ = some (.string n) → Calls Tryz.prog 20 #[.pointer (some ⟨g, 0, none⟩), .slice (some ⟨b, 0, none⟩) 2 2] w fun e w' => e = .returned (.string (nws n)) ∧ Below w.heap.size w w') := fun w b t h0 h1 =>
    parts_ok g (some ⟨b, 0, none⟩) [ByteArray.mk #[110, 101, 119], n] 2 (by simp) (by intro s hs; simp at hs; rcases hs with rfl | rfl; decide; exact hn) w t (str2 h0 h1)
  have h1 : ¬ (500000 : Int) < (n.size : Int) := by omega
  have HT : Hid (Tab W g) := hT
  clear hT
  generalize nws n = z at *
  go_enter Tryz.func8, Tryz.ntmps8
  go_wp2_with (go_at_call 20; refine (HP.out _ _ (HT.out.below (by go_grown)) (by simp [go_sem]) (by simp [go_sem])).mono ?_; rintro e w1 ⟨rfl, hb1⟩; have D1 : Hid (Below W.heap.size W w1) := Below.trans (by go_grown) (hb1.mono (by simp)); clear hb1)
  go_ret
  have d2 := D1.out.alloc D1.out.size (Obj.cells #[.pointer (some ⟨g, 0, none⟩), .string z] 59)
  exact ⟨w1.heap.size, rfl, D1.out.size, ⟨by simp [go_sem], by simp [go_sem], by simp [go_sem]⟩, HT.out.below d2, d2⟩
set_option maxHeartbeats 4000000 in
set_option maxRecDepth 100000 in
theorem tsay (q g : Nat) (s l t : ByteArray) (hs : s.size ≤ 1000) (hl : l.size ≤ 1000) (ht : t.size ≤ 1000) (W : World) (hK : Tk W q g s) (hT : Tab W g) :
    Calls Tryz.prog 18 #[.pointer (some ⟨q, 0, none⟩), .string l, .string t] W fun e w' => e = .returned (.int .i64 0) ∧ ∃ w1, Below W.heap.size W w1 ∧ w' = w1.setCell ⟨q, 1, none⟩ (.string (sys s l t)) := by
  have HP : Hid (∀ w b, Tab w g → w.cell? ⟨b, 0, none⟩ = some (.string s) → w.cell? ⟨b, 1, none⟩ = some (.string (ByteArray.mk #[115, 97, 121])) → w.cell? ⟨b, 2, none⟩ = some (.string l) → w.cell? ⟨b, 3, none⟩ = some (.string t) → Calls Tryz.prog 20 #[.pointer (some ⟨g, 0, none⟩), .slice (some ⟨b, 0, none⟩) 4 4] w fun e w' => e = .returned (.string (sys s l t)) ∧ Below w.heap.size w w') := fun w b h h0 h1 h2 h3 =>
    parts_ok g (some ⟨b, 0, none⟩) [s, ByteArray.mk #[115, 97, 121], l, t] 4 (by simp) (by intro x hx; simp at hx; rcases hx with rfl | rfl | rfl | rfl; exact hs; decide; exact hl; exact ht) w h (str4 h0 h1 h2 h3)
  have h1 : ¬ (500000 : Int) < (l.size : Int) := by omega
  have h2 : ¬ (500000 : Int) < (t.size : Int) := by omega
  have K : Ts W W q g s := ⟨hK, hT, Below.refl _ _⟩
  clear hT hK
  generalize sys s l t = z at *
  go_enter Tryz.func18, Tryz.ntmps18
  go_upto_region 5 with fail
  refine wp_region_noPanic ?_
  refine wp_region_peel (S := fun w => w.cell? ⟨q, 0, none⟩ = some (.pointer (some ⟨g, 0, none⟩)) ∧ w.cell? ⟨q, 1, none⟩ = some (.string s)) 15 (by kernel_rfl) rfl (by kernel_rfl) ?_ (fun hHeld => ?_)
  · exact ⟨K.k.p, K.k.s⟩
  refine wpAnyH_take (i := 0) (oi := _) (v := ?_) rfl (by kernel_rfl) (by kernel_rfl) (by kernel_rfl) (fun _ _ _ h => h) (Or.inl ⟨by rfl, ?_⟩) (by assumption) ?_
  rotate_left
  · ((intro w hSw; (try dsimp only at hSw); go_simp) <;> (try with_reducible rfl))
  try simp only [Act.put]
  refine wpAnyH_take (i := 1) (oi := _) (v := ?_) rfl (by kernel_rfl) (by kernel_rfl) (by kernel_rfl) (fun _ _ _ h => h) (Or.inl ⟨by rfl, ?_⟩) (by assumption) ?_
  rotate_left
  · ((intro w hSw; (try dsimp only at hSw); go_simp) <;> (try with_reducible rfl))
  try simp only [Act.put]
  refine wpAnyH_take (i := 2) (oi := _) (v := ?_) rfl (by kernel_rfl) (by kernel_rfl) (by kernel_rfl) (fun _ _ _ h => h) (Or.inl ⟨by rfl, ?_⟩) (by assumption) ?_
  rotate_left
  · ((intro w hSw; (try dsimp only at hSw); go_simp) <;> (try with_reducible rfl))
  try simp only [Act.put]
  refine wpAnyH_take (i := 3) (oi := _) (v := ?_) rfl (by kernel_rfl) (by kernel_rfl) (by kernel_rfl) (fun _ _ _ h => h) (Or.inl ⟨by rfl, ?_⟩) (by assumption) ?_
  rotate_left
  · ((intro w hSw; (try dsimp only at hSw); go_simp) <;> (try with_reducible rfl))
  try simp only [Act.put]
  refine wpAnyH_take (i := 4) (oi := _) (v := ?_) rfl (by kernel_rfl) (by kernel_rfl) (by kernel_rfl) (fun _ _ _ h => h) (Or.inl ⟨by rfl, ?_⟩) (by assumption) ?_
  rotate_left
  · ((intro w hSw; (try dsimp only at hSw); go_simp) <;> (try with_reducible rfl))
  try simp only [Act.put]
  refine wpAnyH_take (i := 5) (oi := _) (v := ?_) rfl (by kernel_rfl) (by kernel_rfl) (by kernel_rfl) (fun _ _ _ h => h) (Or.inl ⟨by rfl, ?_⟩) (by assumption) ?_
  rotate_left
  · ((intro w hSw; (try dsimp only at hSw); go_simp) <;> (try with_reducible rfl))
  try simp only [Act.put]
  refine wpAnyH_take (i := 6) (oi := _) (v := ?_) rfl (by kernel_rfl) (by kernel_rfl) (by kernel_rfl) (fun _ _ _ h => h) (Or.inl ⟨by rfl, ?_⟩) (by assumption) ?_
  rotate_left
  · ((intro w hSw; (try dsimp only at hSw); go_simp) <;> (try with_reducible rfl))
  try simp only [Act.put]
  refine wpAnyH_take (i := 7) (oi := _) (v := ?_) rfl (by kernel_rfl) (by kernel_rfl) (by kernel_rfl) (fun _ _ _ h => h) (Or.inl ⟨by rfl, ?_⟩) (by assumption) ?_
  rotate_left
  · ((intro w hSw; (try dsimp only at hSw); go_simp) <;> (try with_reducible rfl))
  try simp only [Act.put]
  refine wpAnyH_take (i := 8) (oi := _) (v := ?_) rfl (by kernel_rfl) (by kernel_rfl) (by kernel_rfl) (fun _ _ _ h => h) (Or.inl ⟨by rfl, ?_⟩) (by assumption) ?_
  rotate_left
  · ((intro w hSw; (try dsimp only at hSw); go_simp) <;> (try with_reducible rfl))
  try simp only [Act.put]
  refine wpAnyH_take (i := 9) (oi := _) (v := ?_) rfl (by kernel_rfl) (by kernel_rfl) (by kernel_rfl) (fun _ _ _ h => h) (Or.inl ⟨by rfl, ?_⟩) (by assumption) ?_
  rotate_left
  · ((intro w hSw; (try dsimp only at hSw); go_simp) <;> (try with_reducible rfl))
  try simp only [Act.put]
  refine wpAnyH_take (i := 10) (oi := _) (v := ?_) rfl (by kernel_rfl) (by kernel_rfl) (by kernel_rfl) (fun _ _ _ h => h) (Or.inl ⟨by rfl, ?_⟩) (by assumption) ?_
  rotate_left
  · ((intro w hSw; (try dsimp only at hSw); go_simp) <;> (try with_reducible rfl))
  try simp only [Act.put]
  refine wpAnyH_ready (rs := [11]) (by kernel_rfl) (by simp) ?_
  refine AllReadyH.cons (o := _) rfl (fun KK hKK => ?_) AllReadyH.nil
  go_simp
  have K1 : Ts W (W.drew.alloc (Obj.cells #[.string s, .string (ByteArray.mk #[115, 97, 121]), .string l, .string t] 9)) q g s := K.below ((Below.refl _ _).drew.alloc (Nat.le_refl _) _)
  refine hKK.out _ _ ?_ (fun hHeld => ?_)
  · exact ⟨K1.k.p, K1.k.s⟩
  clear hKK KK
  try simp only [Act.put]
  refine wpAnyH_ready (rs := [12]) (by kernel_rfl) (by simp) ?_
  refine AllReadyH.cons (o := _) rfl (fun KK hKK => ?_) AllReadyH.nil
  go_simp
  (go_at_call 20; refine (HP.out _ _ K1.t (by simp [go_sem]) (by simp [go_sem]) (by simp [go_sem]) (by simp [go_sem])).mono ?_; rintro e w' ⟨rfl, hb'⟩)
  have K'' := K1.below hb'
  clear K K1 hb'
  have K := K''
  clear K''
  refine hKK.out _ _ ?_ (fun hHeld => ?_)
  · exact ⟨K.k.p, K.k.s⟩
  clear hKK KK
  try simp only [Act.put]
  refine wpAnyH_take (i := 13) (oi := _) (v := ?_) rfl (by kernel_rfl) (by kernel_rfl) (by kernel_rfl) (fun _ _ _ h => h) (Or.inl ⟨by rfl, ?_⟩) (by assumption) ?_
  rotate_left
  · ((intro w hSw; (try dsimp only at hSw); go_simp) <;> (try with_reducible rfl))
  try simp only [Act.put]
  refine wpAnyH_take (i := 14) (oi := _) (v := ?_) rfl (by kernel_rfl) (by kernel_rfl) (by kernel_rfl) (fun _ _ _ h => h) (Or.inl ⟨by rfl, ?_⟩) (by assumption) ?_
  rotate_left
  · ((intro w hSw; (try dsimp only at hSw); go_simp) <;> (try with_reducible rfl))
  try simp only [Act.put]
  refine wpAnyH_done (by kernel_rfl) ?_ _
  refine peel_last rfl (fun KK hKK => ?_)
  clear hHeld
  obtain ⟨k1, k2, k3⟩ := K.k
  go_simp
  refine hKK _ _ ?_
  refine NoPanic.normal ?_
  clear hKK KK k1 k2 k3
  have KS : Hid (∃ w1, Below W.heap.size W w1 ∧ w'.setCell ⟨q, 1, none⟩ (.string z) = w1.setCell ⟨q, 1, none⟩ (.string z)) := ⟨w', K.d, rfl⟩
  clear K
  go_wp2
  go_ret
  exact ⟨rfl, KS.out⟩
end Go.Proofs.YtopmkooegpaeaaaGreat
