/- The contract of perm's unshuffle, over the seat's translation. -/
import Derived.Test.YtbmjceiogfhffaaPmN
namespace Go.Proofs.Ytbmjceiogfhffaa
open Go.RowKit

/-- A column mixed back, by its first rows. -/
def ucol (f : Nat → Nat) (c : Nat) : Nat → Nat
  | 0 => 0
  | r + 1 => ucol f c r ^^^ rl64 (unmixv (f (8 * c + r))) (8 * r)
theorem ucol_lt (f : Nat → Nat) (c : Nat) : ∀ r, ucol f c r < 2 ^ 64
  | 0 => by unfold ucol; decide
  | r + 1 => by
    unfold ucol
    exact Nat.xor_lt_two_pow (ucol_lt f c r) (rl64_lt _ _ (unmixv_lt _))
def uval (f : Nat → Nat) (c r : Nat) : Nat := ubp 256 (ucol f c 8 / 2 ^ (8 * r) % 256)
/-- What a state is shuffled back to. -/
def ush (f tn : Nat → Nat) (p : Nat) : Nat := uval f ((p / 8 + 8 - tn (p % 8)) % 8) (p % 8)
theorem ush_of {f tn o : Nat → Nat} {c : Nat} (hc : c = 8) (ht : ∀ r, tn r < 8) (h : ∀ d r, d < c → r < 8 → o ((8 * (d + tn r) + r) % 64) = uval f d r) (p : Nat) (hp : p < 64) : o p = ush f tn p := by
  have := h ((p / 8 + 8 - tn (p % 8)) % 8) (p % 8) (by omega) (by omega)
  have hn := ht (p % 8)
  unfold ush
  rw [← this]
  congr 1
  generalize tn (p % 8) = n at *
  omega
theorem ush_step {f tn o : Nat → Nat} {c j q y : Nat} (ht : ∀ r, tn r < 8) (hc : c < 8) (hj : j < 8) (hq : (8 * (c + tn j) + j) % 64 = q) (hy : uval f c j = y)
    (h : (∀ d r, d < c → r < 8 → o ((8 * (d + tn r) + r) % 64) = uval f d r) ∧ ∀ s, s < j → o ((8 * (c + tn s) + s) % 64) = uval f c s) :
    (∀ d r, d < c → r < 8 → upd o q y ((8 * (d + tn r) + r) % 64) = uval f d r) ∧ ∀ s, s < j + 1 → upd o q y ((8 * (c + tn s) + s) % 64) = uval f c s := by
  have hnj := ht j
  refine ⟨fun d r hd hr => ?_, fun s hs => ?_⟩
  · have hnr := ht r
    unfold upd
    rw [if_neg, h.1 d r hd hr]
    intro e
    rw [← hq] at e
    by_cases er : r = j
    · rw [er] at e
      generalize tn j = k at *
      omega
    · generalize tn j = k at *
      generalize tn r = k2 at *
      omega
  · unfold upd
    by_cases es : s = j
    · rw [es, hq, if_pos rfl, hy]
    · have hns := ht s
      rw [if_neg, h.2 s (by omega)]
      intro e
      rw [← hq] at e
      generalize tn j = k at *
      generalize tn s = k2 at *
      omega
set_option maxHeartbeats 3200000 in
set_option maxRecDepth 100000 in
theorem unshuffle_core (g : Nat) (f tn : Nat → Nat) (t0 t1 t2 t3 t4 t5 t6 t7 : Value) (hf : ∀ i, f i < 256) (ht : ∀ r, tn r < 8)
    (hix : ∀ j : Nat, j < 8 → ∀ w, (Instr.index 55 (.agg #[t0, t1, t2, t3, t4, t5, t6, t7]) (.int .i64 (j : Int))).run Try.prog w = .ok (.int .i64 ((tn j : Nat) : Int)) w)
    (W : World) (hT : Tab W g) :
    Calls Try.prog 59 #[.pointer (some ⟨g, 0, none⟩), .agg (st f).toArray, .agg #[t0, t1, t2, t3, t4, t5, t6, t7]] W fun e w' => e = .returned (.agg (st (ush f tn)).toArray) ∧ Below W.heap.size W w' := by
  have HIX : Hid (∀ j : Nat, j < 8 → ∀ w, (Instr.index 55 (.agg #[t0, t1, t2, t3, t4, t5, t6, t7]) (.int .i64 (j : Int))).run Try.prog w = .ok (.int .i64 ((tn j : Nat) : Int)) w) := hix
  have HF : Hid (∀ i, f i < 256) := hf
  have HN : Hid (∀ r, tn r < 8) := ht
  have HS : Hid (Sh W ((((W.alloc (Obj.cells (st f).toArray 84)).alloc (Obj.cells #[t0, t1, t2, t3, t4, t5, t6, t7] 55)).alloc (Obj.cells (st fun _ => 0).toArray 84)).alloc (Obj.cells (st fun _ => 0).toArray 84)) g W.heap.size (W.heap.size + 1) (W.heap.size + 1 + 1) (W.heap.size + 1 + 1 + 1) f (fun _ => 0) t0 t1 t2 t3 t4 t5 t6 t7) := sh_new W g f t0 t1 t2 t3 t4 t5 t6 t7 hT
  clear hix hf ht hT
  go_enter Try.func59, Try.ntmps59
  go_wp2_with (refine wp_new rfl rfl ?_)
  generalize ((((W.alloc (Obj.cells (st f).toArray 84)).alloc (Obj.cells #[t0, t1, t2, t3, t4, t5, t6, t7] 55)).alloc (Obj.cells (st fun _ => 0).toArray 84)).alloc (Obj.cells (st fun _ => 0).toArray 84)) = w0 at *
  generalize W.heap.size + 1 + 1 + 1 = b3 at *
  generalize W.heap.size + 1 + 1 = b2 at *
  generalize W.heap.size + 1 = b1 at *
  generalize hb0 : W.heap.size = b0 at *
  have HB0 : Hid (W.heap.size = b0) := hb0
  clear hb0
  generalize hcs : (st f).toArray = cs at *
  clear hcs
  go_loopw [13] (fun u wr => ∃ (c : Nat) (o : Nat → Nat), c ≤ 8 ∧ u = .int .i64 c ∧ Hid (Sh W wr g b0 b1 b2 b3 f o t0 t1 t2 t3 t4 t5 t6 t7) ∧ Hid (∀ d r, d < c → r < 8 → o ((8 * (d + tn r) + r) % 64) = uval f d r)) (fun u _ => 8 - (intOf u).toNat)
  case atStart => exact ⟨0, _, by omega, rfl, HS, (fun d r hd _ => by omega)⟩
  case round =>
    obtain ⟨c, o, hc, rfl, HS1, HO⟩ := hrel
    clear HS
    by_cases hcl : c < 8
    · have hci : (c : Int) < 8 := by omega
      go_wp2
      go_loopw [9, 16] (fun v u w1 => ∃ r : Nat, r ≤ 8 ∧ v = .int .u64 ((ucol f c r : Nat) : Int) ∧ u = .int .i64 r ∧ Hid (Sh W w1 g b0 b1 b2 b3 f o t0 t1 t2 t3 t4 t5 t6 t7)) (fun _ u _ => 8 - (intOf u).toNat)
      case atStart => exact ⟨0, by omega, rfl, rfl, HS1⟩
      case round =>
        rename World => w1
        obtain ⟨r, hr, rfl, rfl, HS2⟩ := hrel
        clear HS1
        by_cases hrl : r < 8
        · have hq : 8 * c + r < 64 := by omega
          have HP : Hid (Same 71 #[.int .i64 (c : Int), .int .i64 (r : Int)] (.int .i64 ((8 * c + r : Nat) : Int))) := by have := pl_any c r (by omega) hrl; rwa [Nat.mod_eq_of_lt hq] at this
          have d1 := HS2.out.s.cell hq
          have hx := HF.out (8 * c + r)
          have HA : Hid (∀ w, Tab w g → Calls Try.prog 67 #[.pointer (some ⟨g, 2816, none⟩), .int .i64 (r : Int), .int .u8 ((f (8 * c + r) : Nat) : Int)] w fun e w' => e = .returned (.int .u64 ((rl64 (unmixv (f (8 * c + r))) (8 * r) : Nat) : Int)) ∧ w' = w) := fun w h => alone_any g 2816 r _ _ w hrl hx (unmixv_lt _) (Tabs.unmix h hx)
          have hz : bits .xor .u64 ((ucol f c r : Nat) : Int) ((rl64 (unmixv (f (8 * c + r))) (8 * r) : Nat) : Int) = ((ucol f c (r + 1) : Nat) : Int) := u64_xor_nat _ _ (ucol_lt f c r) (rl64_lt _ _ (unmixv_lt _))
          generalize rl64 (unmixv (f (8 * c + r))) (8 * r) = q1 at *
          generalize f (8 * c + r) = x at *
          generalize 8 * c + r = q at *
          generalize hv : ucol f c (r + 1) = v2 at *
          have HV : Hid (ucol f c (r + 1) = v2) := hv
          clear hv
          generalize ucol f c r = v1 at *
          have i1 : (0 : Int) ≤ (q : Int) := by omega
          have i2 : (q : Int) < 64 := by omega
          have i3 : (r : Int) < 8 := by omega
          go_wp2
          go_region_held3 (fun w => w.cell? ⟨b0, q, none⟩ = some (.int .u8 (x : Int))) (go_keep) (first | (go_at_call 71; refine (HP.out.go _).mono ?_; rintro e w' ⟨rfl, rfl⟩) | (go_at_call 67; refine (HA.out w1.drew HS2.out.t).mono ?_; rintro e w' ⟨rfl, rfl⟩))
          go_wp2
          exact ⟨⟨r + 1, hrl, by rw [HV.out], by simp, HS2.out.drew⟩, by simp [intOf]; omega⟩
        · have HV : Hid (ucol f c r = ucol f c 8) := by rw [show r = 8 by omega]; exact (rfl : ucol f c 8 = ucol f c 8)
          have hrn : ¬ ((r : Int) < 8) := by omega
          generalize ucol f c r = m at *
          have k0 := HS2.out.c0
          have k1 := HS2.out.c1
          have k2 := HS2.out.c2
          have k3 := HS2.out.c3
          have k4 := HS2.out.c4
          have k5 := HS2.out.c5
          have k6 := HS2.out.c6
          have k7 := HS2.out.c7
          go_wp2
          clear k0 k1 k2 k3 k4 k5 k6 k7
          go_loopw [33] (fun u w1 => ∃ (r : Nat) (o : Nat → Nat), r ≤ 8 ∧ u = .int .i64 r ∧ Hid (Sh W w1 g b0 b1 b2 b3 f o t0 t1 t2 t3 t4 t5 t6 t7) ∧ Hid ((∀ d r, d < c → r < 8 → o ((8 * (d + tn r) + r) % 64) = uval f d r) ∧ ∀ s, s < r → o ((8 * (c + tn s) + s) % 64) = uval f c s)) (fun u _ => 8 - (intOf u).toNat)
          case atStart => exact ⟨0, _, by omega, rfl, HS2, ⟨HO.out, (fun s hs => by omega)⟩⟩
          case round =>
            clear HS2
            rename World => w2
            obtain ⟨j, o1, hj, rfl, HS3, HO1⟩ := hrel
            by_cases hjl : j < 8
            · have hix := HIX.out j hjl
              have hn := HN.out j
              have HP : Hid (Same 71 #[.int .i64 ((c : Int) + ((tn j : Nat) : Int)), .int .i64 (j : Int)] (.int .i64 (((8 * (c + tn j) + j) % 64 : Nat) : Int))) := by have := pl_any (c + tn j) j (by omega) hjl; rwa [Int.natCast_add] at this
              have HA : Hid (Same 49 #[.int .u64 (m : Int), .int .i64 (j : Int)] (.int .u8 ((m / 2 ^ (8 * j) % 256 : Nat) : Int))) := at_any m j hjl
              have hx : m / 2 ^ (8 * j) % 256 < 256 := Nat.mod_lt _ (by decide)
              have HZ : Hid (uval f c j = ubp 256 (m / 2 ^ (8 * j) % 256)) := by
                show uval f c j = ubp 256 (m / 2 ^ (8 * j) % 256)
                unfold uval
                rw [← HV.out]
              have hq : (8 * (c + tn j) + j) % 64 < 64 := Nat.mod_lt _ (by decide)
              have d1 := HS3.out.o.cell hq
              have z1 := HS3.out.o.frozen ((8 * (c + tn j) + j) % 64)
              have d2 := Tabs.unbox HS3.out.t hx
              have HQ : Hid ((8 * (c + tn j) + j) % 64 = (8 * (c + tn j) + j) % 64) := rfl
              generalize ubp 256 (m / 2 ^ (8 * j) % 256) = y at *
              generalize m / 2 ^ (8 * j) % 256 = x at *
              generalize hqq : (8 * (c + tn j) + j) % 64 = q at *
              replace HQ : Hid ((8 * (c + tn j) + j) % 64 = q) := hqq
              clear hqq
              generalize hnn : tn j = n at *
              have HNN : Hid (tn j = n) := hnn
              clear hnn
              have i1 : (0 : Int) ≤ (q : Int) := by omega
              have i2 : (q : Int) < 64 := by omega
              have i3 : (j : Int) < 8 := by omega
              have i4 : (0 : Int) ≤ (x : Int) := by omega
              have i5 : (x : Int) < 256 := by omega
              have i6 : IntKind.i64.wrap ((c : Int) + (n : Int)) = (c : Int) + (n : Int) := by rw [IntKind.wrap_i64]; omega
              have hne : ¬ b3 = g := HS3.out.n0
              have hne2 : ¬ g = b3 := fun e => hne e.symm
              go_wp2
              go_region_held3 (fun w => w.cell? ⟨g, 256 + x, none⟩ = some (.int .u8 (y : Int))) (first | (go_keep; done) | (simp [go_sem, *]; done)) (first | (go_at_call 71; refine (HP.out.go _).mono ?_; rintro e w' ⟨rfl, rfl⟩) | (go_at_call 49; refine (HA.out.go _).mono ?_; rintro e w' ⟨rfl, rfl⟩))
              go_wp2
              refine ⟨⟨j + 1, _, hjl, by simp, HS3.out.drew.set q y, ?_⟩, by simp [intOf]; omega⟩
              exact ush_step HN.out hcl hjl (by rw [HNN.out]; exact HQ.out) HZ.out HO1.out
            · have hjn : ¬ ((j : Int) < 8) := by omega
              go_wp2
              refine ⟨⟨c + 1, _, hcl, by simp, HS3, (fun d r hd hr => ?_)⟩, by simp [intOf]; omega⟩
              by_cases e : d = c
              · rw [e]; exact HO1.out.2 r (by omega)
              · exact HO1.out.1 d r (by omega) hr
    · have HF2 : Hid (∀ p, p < 64 → o p = ush f tn p) := (fun p hp => ush_of (by omega) HN.out HO.out p hp)
      have hcn : ¬ ((c : Int) < 8) := by omega
      have HR : Hid (wr.rangeAt b3 0 (st o)) := HS1.out.o.range
      have HH : Hid (wr.there b2 0 (st o).toArray.size) := by rw [List.size_toArray, st_len]; exact HS1.out.r.there
      have HI1 : Hid ((Try.prog.info? 84).map (·.size) = some (st o).length) := info_st o
      have HI2 : Hid ((Try.prog.info? 84).map (·.size) = some (st o).toArray.size) := info_st2 o
      have HI3 : Hid ((st o).toArray.all (·.oneCell') = true) := one_st o
      have HC : Hid (st o = st o) := rfl
      generalize hcs2 : st o = cs2 at *
      replace HC : Hid (st o = cs2) := hcs2
      clear hcs2
      go_wp2_with (first | (refine wpList_load_mid rfl 84 _ rfl b3 0 rfl cs2 _ HR.out Try.underlying84 rfl HI1.out ?_) | (refine wpList_store_mid rfl 84 _ _ rfl b2 0 cs2.toArray rfl rfl HH.out HI2.out HI3.out ?_))
      have HX : Hid (Stt (wr.setCells b2 0 cs2) b2 o) := by rw [← HC.out]; exact HS1.out.r.setAll o
      have hld : (loadVar 84 ⟨b2, 0, none⟩).run Try.prog (wr.setCells b2 0 cs2) = .ok (.agg (st (ush f tn)).toArray) (wr.setCells b2 0 cs2) := by
        rw [← st_congr HF2.out]
        exact run_loadVar_mid _ b2 0 84 (st o) _ HX.out.range Try.underlying84 rfl (info_st o)
      refine bodyPost_ret (v := .agg (st (ush f tn)).toArray) ?_ rfl ⟨rfl, ?_⟩
      · exact results_cell1 Try.results59 rfl hld
      · exact below_setCells HS1.out.l2 _ _ _ HS1.out.d
end Go.Proofs.Ytbmjceiogfhffaa
