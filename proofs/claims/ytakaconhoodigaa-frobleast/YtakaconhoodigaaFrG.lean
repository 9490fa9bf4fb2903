/- The contract of the law's awake over the seat's translation. -/
import Derived.Test.YtakaconhoodigaaFrF
namespace Go.Proofs.Ytakaconhoodigaa
open Go.RowKit
open Cb
open Tw (pm)

def two1 : Ek 1 := ⟨(0, 2), ⟨by decide, by decide⟩, (ofB_iff 1 0 2 (by decide)).2 (Or.inr ⟨rfl, by decide⟩)⟩
theorem pm22 : pm (0, 2) (0, 2) = (0, 3) := by decide +kernel
theorem pm23 : pm (0, 2) (0, 3) = (0, 1) := by decide +kernel
theorem cj0 : (cj 1 1 (by decide) two1 0).1 = (0, 2) := rfl
theorem cj1 : (cj 1 1 (by decide) two1 1).1 = (0, 3) := pm22
theorem cjs2 : (cjs 1 1 (by decide) two1 2) = [cj 1 1 (by decide) two1 0, cj 1 1 (by decide) two1 1] := rfl
theorem tr2 : trl (cjs 1 1 (by decide) two1 2) = (0, 1) := by
  rw [cjs2]; unfold trl; simp only [List.foldl_cons, List.foldl_nil, cj0, cj1]; rfl
theorem nr2 : nrl (cjs 1 1 (by decide) two1 2) = (0, 1) := by
  rw [cjs2]; unfold nrl; simp only [List.foldl_cons, List.foldl_nil, cj0, cj1]; rw [one_pm (show lt2 (0, 2) from ⟨by decide, by decide⟩), pm23]
theorem pm10 : pm (0, 1) (0, 2) = (0, 2) := one_pm ⟨by decide, by decide⟩
theorem pm13 : pm (0, 1) (0, 3) = (0, 3) := one_pm ⟨by decide, by decide⟩
theorem tms1 : tms [(0, 1)] (0, 2) = [(0, 2), (0, 1)] := by
  simp only [tms, tmE, pvE, el, List.length_cons, List.length_nil, List.range_succ, List.range_zero, List.nil_append, List.cons_append, List.map_cons, List.map_nil, List.getD_cons_zero, List.getD_cons_succ, List.getD_nil, pm10, zero_pm, Nat.zero_add, if_true, Nat.one_ne_zero, if_false, Nat.sub_self]
  rfl
theorem tms2 : tms [(0, 2), (0, 1)] (0, 3) = [(0, 1), (0, 1), (0, 1)] := by
  have h1 : el [((0 : Nat), 2), (0, 1)] 0 = (0, 2) := rfl
  have h2 : el [((0 : Nat), 2), (0, 1)] 1 = (0, 1) := rfl
  have h3 : el [((0 : Nat), 2), (0, 1)] 2 = (0, 0) := rfl
  show [tmE _ _ 0, tmE _ _ 1, tmE _ _ 2] = _
  unfold tmE
  rw [h1, h2, h3, pm23, pm13, zero_pm]
  rfl
theorem cfl2 : cfl (cjs 1 1 (by decide) two1 2) = List.replicate 3 (0, 1) := by
  rw [cjs2]; unfold cfl; simp only [List.foldl_cons, List.foldl_nil, cj0, cj1]; rw [tms1, tms2]; rfl
set_option maxRecDepth 100000 in
set_option maxHeartbeats 4000000 in
theorem awake33 : Ret 12 #[] (.bool true) := by
  intro W
  have HT := hidF (trace_ok 1 0 (by decide) (by decide) two1)
  rw [show (2 : Nat) ^ 0 = 1 from rfl, show (2 : Nat) ^ (1 - 0) = 2 from rfl, tr2] at HT
  have HN := hidF (norm_ok 1 0 (by decide) (by decide) two1)
  rw [show (2 : Nat) ^ 0 = 1 from rfl, show (2 : Nat) ^ (1 - 0) = 2 from rfl, nr2] at HN
  have hl : lvl 0 2 = 1 := by decide
  have HL := hidF (fun w => least_ones 1 (by decide) (0, 2) two1.2.1 two1.2.2 1 (fun x => x.2.2) (cjs 1 1 (by decide) two1 2) 3 rfl (by decide) cfl2 (fun v b1 b2 b3 h => conj1_ok (3 - 1) (by decide) b1 b2 b3 1 0 1 1 2 (by decide) (by decide) rfl rfl rfl two1 v (by rw [show lvl (0, 2).1 (0, 2).2 = ((1 : Nat) : Int) from hl] at h; exact h)) w)
  have HO := hidF one_any
  unfold two1 at HT HN
  dsimp only at HT HN HL
  clear hl
  go_enter Try.func12, Try.ntmps12
  go_wp2_with (first
    | (go_at_call 30; refine (HL.out _).mono ?_; rintro e w1 ⟨u, rfl, hu, hb1⟩; have K1 := hidF (And.intro hu hb1); clear hu hb1)
    | (go_at_call 18; refine (HT.out.go _).mono ?_; rintro e w2 ⟨rfl, hb2⟩; have K2 := hidF (And.intro (fun i hi => cellB hb2 (K1.out.1 i hi)) (K1.out.2.trans (hb2.mono K1.out.2.size))); clear hb2 K1 HT)
    | (go_at_call 19; refine (HN.out.go _).mono ?_; rintro e w4 ⟨rfl, hb4⟩; have K4 := hidF (And.intro (fun i hi => cellB hb4 (K3.out.1 i hi)) (K3.out.2.trans (hb4.mono K3.out.2.size))); clear hb4 K3 HN)
    | (go_at_call 35; refine (HO.out _).mono ?_; rintro e w3 ⟨rfl, hb3⟩; have K3 := hidF (And.intro (fun i hi => cellB hb3 (K2.out.1 i hi)) (K2.out.2.trans (hb3.mono K2.out.2.size))); clear hb3 K2)
    | (go_at_call 35; refine (HO.out _).mono ?_; rintro e w5 ⟨rfl, hb5⟩; have K5 := hidF (And.intro (fun i hi => cellB hb5 (K4.out.1 i hi)) (K4.out.2.trans (hb5.mono K4.out.2.size))); clear hb5 K4; have u0 := K5.out.1 0 (by decide); have u1 := K5.out.1 1 (by decide); have u2 := K5.out.1 2 (by decide)))
  go_ret
  exact ⟨rfl, K5.out.2⟩
end Go.Proofs.Ytakaconhoodigaa
