/- Both ways lead back and forth: P, Q, BackP and BackQ of a state, and the walk of PermBack, over the seat's translation. -/
import Derived.Test.YtopmkooegpaeaaaGreatPmZ
import Derived.Test.YtopmkooegpaeaaaGreatPmX
import Derived.Test.YtopmkooegpaeaaaGreatPmK
namespace Go.Proofs.YtopmkooegpaeaaaGreat
open Go.RowKit

/-- A column of bytes. -/
def wd (y : Nat → Nat) : Nat := y 0 + 256 * (y 1 + 256 * (y 2 + 256 * (y 3 + 256 * (y 4 + 256 * (y 5 + 256 * (y 6 + 256 * y 7))))))
theorem wd_lt {y : Nat → Nat} (h : ∀ r, y r < 256) : wd y < 2 ^ 64 := by
  have h0 := h 0; have h1 := h 1; have h2 := h 2; have h3 := h 3; have h4 := h 4; have h5 := h 5; have h6 := h 6; have h7 := h 7
  unfold wd
  omega
theorem wd_byte {y : Nat → Nat} (h : ∀ r, y r < 256) (r : Nat) (hr : r < 8) : wd y / 2 ^ (8 * r) % 256 = y r := by
  have h0 := h 0; have h1 := h 1; have h2 := h 2; have h3 := h 3; have h4 := h 4; have h5 := h 5; have h6 := h 6; have h7 := h 7
  unfold wd
  rcases lt8 hr with rfl | rfl | rfl | rfl | rfl | rfl | rfl | rfl
  · simp only [Nat.mul_zero, Nat.pow_zero, Nat.div_one]; omega
  · rw [show 2 ^ (8 * 1) = 256 by decide]; omega
  · rw [show 2 ^ (8 * 2) = 65536 by decide]; omega
  · rw [show 2 ^ (8 * 3) = 16777216 by decide]; omega
  · rw [show 2 ^ (8 * 4) = 4294967296 by decide]; omega
  · rw [show 2 ^ (8 * 5) = 1099511627776 by decide]; omega
  · rw [show 2 ^ (8 * 6) = 281474976710656 by decide]; omega
  · rw [show 2 ^ (8 * 7) = 72057594037927936 by decide]; omega
theorem mcol_whp (f tn : Nat → Nat) (c X : Nat) (h : ∀ r, r < 8 → X / 2 ^ (8 * r) % 256 = bx (f ((8 * (c + tn r) + r) % 64))) : ∀ r, r ≤ 8 → mcol f tn c r = whp mixv X r
  | 0, _ => rfl
  | r + 1, hr => by
    unfold mcol whp
    rw [mcol_whp f tn c X h r (by omega), h r (by omega)]
theorem ucol_whp (f : Nat → Nat) (c X : Nat) (h : ∀ r, r < 8 → X / 2 ^ (8 * r) % 256 = f (8 * c + r)) : ∀ r, r ≤ 8 → ucol f c r = whp unmixv X r
  | 0, _ => rfl
  | r + 1, hr => by
    unfold ucol whp
    rw [ucol_whp f c X h r (by omega), h r (by omega)]
theorem ush_shf {f tn : Nat → Nat} (hf : ∀ p, f p < 256) (ht : ∀ r, tn r < 8) (p : Nat) (hp : p < 64) : ush (shf f tn) tn p = f p := by
  have hn := ht (p % 8)
  unfold ush uval
  generalize hc : (p / 8 + 8 - tn (p % 8)) % 8 = c
  have hcl : c < 8 := by omega
  have e1 : ucol (shf f tn) c 8 = whp unmixv (mcol f tn c 8) 8 := ucol_whp _ c _ (fun r hr => by
    unfold shf
    rw [show (8 * c + r) / 8 = c by omega, show (8 * c + r) % 8 = r by omega]) 8 (Nat.le_refl _)
  have e2 : mcol f tn c 8 = whp mixv (wd fun r => bx (f ((8 * (c + tn r) + r) % 64))) 8 := mcol_whp f tn c _ (fun r hr => wd_byte (fun r => bx_lt _) r hr) 8 (Nat.le_refl _)
  rw [e1, e2, unmix_mix (wd_lt fun r => bx_lt _), wd_byte (fun r => bx_lt _) (p % 8) (by omega), ubp_bx 256 _ (Nat.le_refl _) (hf _)]
  congr 1
  generalize tn (p % 8) = n at *
  omega
theorem shf_ush {f tn : Nat → Nat} (hf : ∀ p, f p < 256) (ht : ∀ r, tn r < 8) (p : Nat) (hp : p < 64) : shf (ush f tn) tn p = f p := by
  unfold shf
  generalize hc : p / 8 = c
  have hcl : c < 8 := by omega
  have e0 : ∀ r, r < 8 → bx (ush f tn ((8 * (c + tn r) + r) % 64)) = ucol f c 8 / 2 ^ (8 * r) % 256 := fun r hr => by
    have hn := ht r
    unfold ush uval
    have m8 : (8 * (c + tn r) + r) % 64 % 8 = r := by omega
    rw [m8]
    have d8 : ((8 * (c + tn r) + r) % 64 / 8 + 8 - tn r) % 8 = c := by
      generalize tn r = n at *
      omega
    rw [d8, ubp_eq (Nat.mod_lt _ (by decide))]
    exact (bx_unbx (Nat.mod_lt _ (by decide))).1
  have e1 : mcol (ush f tn) tn c 8 = whp mixv (ucol f c 8) 8 := mcol_whp _ tn c _ (fun r hr => (e0 r hr).symm) 8 (Nat.le_refl _)
  have e2 : ucol f c 8 = whp unmixv (wd fun r => f (8 * c + r)) 8 := ucol_whp f c _ (fun r hr => wd_byte (fun r => hf _) r hr) 8 (Nat.le_refl _)
  rw [e1, e2, mix_unmix (wd_lt fun r => hf _), wd_byte (fun r => hf _) (p % 8) (by omega)]
  congr 1
  omega
theorem shf_congr {f f' tn : Nat → Nat} (h : ∀ p, p < 64 → f p = f' p) (p : Nat) : shf f tn p = shf f' tn p := by
  have e : ∀ c r, mcol f tn c r = mcol f' tn c r := fun c r => by
    induction r with
    | zero => rfl
    | succ r ih => unfold mcol; rw [ih, h _ (Nat.mod_lt _ (by decide))]
  unfold shf
  rw [e]
theorem ush_congr {f f' tn : Nat → Nat} (h : ∀ p, p < 64 → f p = f' p) (p : Nat) (_ : p < 64) : ush f tn p = ush f' tn p := by
  have e : ∀ c r, c < 8 → r ≤ 8 → ucol f c r = ucol f' c r := fun c r hc hr => by
    induction r with
    | zero => rfl
    | succ r ih => unfold ucol; rw [ih (by omega), h _ (by omega)]
  unfold ush uval
  rw [e _ _ (Nat.mod_lt _ (by decide)) (Nat.le_refl _)]
theorem apl_congr {f f' : Nat → Nat} (h : ∀ p, p < 64 → f p = f' p) (row i c p : Nat) (hp : p < 64) : apl f row i c p = apl f' row i c p := by
  unfold apl
  rw [h p hp]
theorem apl_apl (f : Nat → Nat) (row i c p : Nat) : apl (apl f row i c) row i c p = f p := by
  unfold apl
  by_cases h : p % 8 = row ∧ p / 8 < c
  · rw [if_pos h, if_pos h, Nat.xor_assoc, Nat.xor_self, Nat.xor_zero]
  · rw [if_neg h, if_neg h]
theorem not_apl (f : Nat → Nat) (row i c p : Nat) : apl (fun p => f p ^^^ 255) row i c p ^^^ 255 = apl f row i c p := by
  unfold apl
  by_cases h : p % 8 = row ∧ p / 8 < c
  · rw [if_pos h, if_pos h, Nat.xor_assoc, Nat.xor_assoc, Nat.xor_comm 255, Nat.xor_assoc, Nat.xor_self, Nat.xor_zero]
  · rw [if_neg h, if_neg h, Nat.xor_assoc, Nat.xor_self, Nat.xor_zero]
/-- What an adding of a way is asked. -/
structure Adds (ad : (Nat → Nat) → Nat → Nat → Nat) : Prop where
  lt : ∀ F i, (∀ p, F p < 256) → ∀ p, ad F i p < 256
  congr : ∀ F G i, (∀ p, p < 64 → F p = G p) → ∀ p, p < 64 → ad F i p = ad G i p
  back : ∀ F i p, p < 64 → ad (ad F i) i p = F p
theorem addsP : Adds adP where
  lt _ i h p := adP_lt h i p
  congr _ _ i h p hp := apl_congr h 0 i 8 p hp
  back F i p _ := apl_apl F 0 i 8 p
theorem addsQ : Adds adQ where
  lt _ i h p := adQ_lt h i p
  congr F G i h p hp := apl_congr (fun q hq => by show F q ^^^ 255 = G q ^^^ 255; rw [h q hq]) 7 i 8 p hp
  back F i p hp := by
    show apl (fun p => apl (fun p => F p ^^^ 255) 7 i 8 p ^^^ 255) 7 i 8 p = F p
    rw [apl_congr (f' := apl F 7 i 8) (fun q _ => not_apl F 7 i 8 q) 7 i 8 p hp, apl_apl]
theorem fwd_congr {ad : (Nat → Nat) → Nat → Nat → Nat} (ha : Adds ad) {tn f g : Nat → Nat} (h : ∀ p, p < 64 → f p = g p) : ∀ i p, p < 64 → fwd ad tn f i p = fwd ad tn g i p
  | 0, p, hp => h p hp
  | i + 1, p, _ => shf_congr (ha.congr _ _ i (fwd_congr ha h i)) p
theorem bwd_congr {ad : (Nat → Nat) → Nat → Nat → Nat} (ha : Adds ad) {tn f g : Nat → Nat} (h : ∀ p, p < 64 → f p = g p) : ∀ i p, p < 64 → bwd ad tn f i p = bwd ad tn g i p
  | 0, p, hp => h p hp
  | i + 1, p, hp => ha.congr _ _ _ (fun q hq => ush_congr (bwd_congr ha h i) q hq) p hp
theorem bwd_fwd {ad : (Nat → Nat) → Nat → Nat → Nat} (ha : Adds ad) {tn f : Nat → Nat} (ht : ∀ r, tn r < 8) (hf : ∀ p, f p < 256) : ∀ i, i ≤ 6 → ∀ p, p < 64 → bwd ad tn (fwd ad tn f 6) i p = fwd ad tn f (6 - i) p
  | 0, _, _, _ => rfl
  | i + 1, hi, p, hp => by
    have ih := bwd_fwd ha ht hf i (by omega)
    show ad (ush (bwd ad tn (fwd ad tn f 6) i) tn) (5 - i) p = _
    rw [ha.congr _ (ad (fwd ad tn f (5 - i)) (5 - i)) _ (fun q hq => ?_) p hp, ha.back _ _ p hp, show 6 - (i + 1) = 5 - i by omega]
    rw [ush_congr ih q hq, show 6 - i = 5 - i + 1 by omega]
    exact ush_shf (ha.lt _ _ (fwd_lt ad tn f ha.lt hf _)) ht q hq
theorem fwd_bwd {ad : (Nat → Nat) → Nat → Nat → Nat} (ha : Adds ad) {tn f : Nat → Nat} (ht : ∀ r, tn r < 8) (hf : ∀ p, f p < 256) : ∀ i, i ≤ 6 → ∀ p, p < 64 → fwd ad tn (bwd ad tn f 6) i p = bwd ad tn f (6 - i) p
  | 0, _, _, _ => rfl
  | i + 1, hi, p, hp => by
    have ih := fwd_bwd ha ht hf i (by omega)
    show shf (ad (fwd ad tn (bwd ad tn f 6) i) i) tn p = _
    rw [shf_congr (f' := ush (bwd ad tn f (5 - i)) tn) (fun q hq => ?_) p, show 6 - (i + 1) = 5 - i by omega]
    · exact shf_ush (bwd_lt ad tn f ha.lt hf _) ht p hp
    · rw [ha.congr _ (ad (ush (bwd ad tn f (5 - i)) tn) i) i (fun r hr => ?_) q hq, ha.back _ _ q hq]
      rw [ih r hr, show 6 - i = 5 - i + 1 by omega]
      show ad (ush (bwd ad tn f (5 - i)) tn) (5 - (5 - i)) r = _
      rw [show 5 - (5 - i) = i by omega]
theorem way_back {ad : (Nat → Nat) → Nat → Nat → Nat} (ha : Adds ad) {tn : Nat → Nat} (ht : ∀ r, tn r < 8) (s : ByteArray) (hs : s.size = 64) : txt (bwd ad tn (bs (txt (fwd ad tn (bs s) 6))) 6) = s := by
  conv => rhs; rw [← txt_bs s hs]
  refine txt_congr fun p hp => ?_
  rw [bwd_congr ha (fun q hq => bs_txt (fwd_lt ad tn (bs s) ha.lt (bs_lt s) 6) q hq) 6 p hp, bwd_fwd ha ht (bs_lt s) 6 (Nat.le_refl _) p hp]
  rfl
theorem back_way {ad : (Nat → Nat) → Nat → Nat → Nat} (ha : Adds ad) {tn : Nat → Nat} (ht : ∀ r, tn r < 8) (s : ByteArray) (hs : s.size = 64) : txt (fwd ad tn (bs (txt (bwd ad tn (bs s) 6))) 6) = s := by
  conv => rhs; rw [← txt_bs s hs]
  refine txt_congr fun p hp => ?_
  rw [fwd_congr ha (fun q hq => bs_txt (bwd_lt ad tn (bs s) ha.lt (bs_lt s) 6) q hq) 6 p hp, fwd_bwd ha ht (bs_lt s) 6 (Nat.le_refl _) p hp]
  rfl


theorem P_ok (g : Nat) (s : ByteArray) (hs : s.size = 64) (W : World) (hT : Tab W g) : Calls Tryz.prog 118 #[.pointer (some ⟨g, 0, none⟩), .string s] W fun e w' => e = .returned (.tuple #[.string (txt (fwd adP tnP (bs s) 6)), .int .i64 0]) ∧ Below W.heap.size W w' := by
  have HF : Hid (∀ W, Tab W g → Calls Tryz.prog 135 #[.pointer (some ⟨g, 0, none⟩), .string s, .agg #[.func (.func 148) #[] #[], .int .i64 0, .int .i64 1, .int .i64 2, .int .i64 3, .int .i64 4, .int .i64 5, .int .i64 6, .int .i64 7]] W fun e w' => e = .returned (.tuple #[.string (txt (fwd adP tnP (bs s) 6)), .int .i64 0]) ∧ Below (World.heap W).size W w') := fun W h => forthP_ok g s hs W h
  have HT : Hid (Tab W g) := hT
  clear hT
  generalize txt (fwd adP tnP (bs s) 6) = tx at *
  go_enter Tryz.func118, Tryz.ntmps118
  go_wp2_with (first | (go_at_call 136; refine (wayP_any _).mono ?_; rintro e w1 ⟨rfl, hb1⟩) | (go_at_call 135; refine (HF.out _ (HT.out.below hb1)).mono ?_; rintro e w2 ⟨rfl, hb2⟩; have D2 : Hid (Below W.heap.size W w2) := hb1.trans (hb2.mono hb1.size)))
  go_ret2
  exact ⟨rfl, D2.out⟩
theorem Q_ok (g : Nat) (s : ByteArray) (hs : s.size = 64) (W : World) (hT : Tab W g) : Calls Tryz.prog 133 #[.pointer (some ⟨g, 0, none⟩), .string s] W fun e w' => e = .returned (.tuple #[.string (txt (fwd adQ tnQ (bs s) 6)), .int .i64 0]) ∧ Below W.heap.size W w' := by
  have HF : Hid (∀ W, Tab W g → Calls Tryz.prog 135 #[.pointer (some ⟨g, 0, none⟩), .string s, .agg #[.func (.func 151) #[] #[], .int .i64 1, .int .i64 3, .int .i64 5, .int .i64 7, .int .i64 0, .int .i64 2, .int .i64 4, .int .i64 6]] W fun e w' => e = .returned (.tuple #[.string (txt (fwd adQ tnQ (bs s) 6)), .int .i64 0]) ∧ Below (World.heap W).size W w') := fun W h => forthQ_ok g s hs W h
  have HT : Hid (Tab W g) := hT
  clear hT
  generalize txt (fwd adQ tnQ (bs s) 6) = tx at *
  go_enter Tryz.func133, Tryz.ntmps133
  go_wp2_with (first | (go_at_call 145; refine (wayQ_any _).mono ?_; rintro e w1 ⟨rfl, hb1⟩) | (go_at_call 135; refine (HF.out _ (HT.out.below hb1)).mono ?_; rintro e w2 ⟨rfl, hb2⟩; have D2 : Hid (Below W.heap.size W w2) := hb1.trans (hb2.mono hb1.size)))
  go_ret2
  exact ⟨rfl, D2.out⟩
end Go.Proofs.YtopmkooegpaeaaaGreat
