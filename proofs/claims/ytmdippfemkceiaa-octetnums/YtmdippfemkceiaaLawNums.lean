/- For every number and every list of texts OctetNums returns true and its arguments read as before: the bytes of a number, a text and a list are the document's. No condition. -/
import Derived.Test.YtmdippfemkceiaaRows
import Derived.Test.YtmdippfemkceiaaOctN
import Derived.Test.YtmdippfemkceiaaFew
import Derived.Deep.RegionWith
import Derived.ProofKit
import Derived.OpenShut
import Derived.ShutString
import Derived.ChangeOld
import Derived.SliceStrings
namespace Go.Proofs.Ytmdippfemkceiaa
open Go.ChangeShapes Go.WideShapes Go.ChangeAt Go.RowKit
namespace LawNums

set_option maxHeartbeats 400000 in
theorem walk_many (n : Int) (a : Option Addr) (ss : List ByteArray) (cap : Nat) (hm : ss.length ≤ maxLen) (w : World) (h : StrRow w a ss) (hf : fewB ss 20 300 = false) :
    Calls Try.prog 3 #[.int .i64 n, .slice a ss.length cap] w fun e w' => e = .returned (.bool true) ∧ Below w.heap.size w w' := by
  have F := few_any a ss cap 20 300 hm w h
  rw [hf] at F
  have HF : Hid (Calls Try.prog 9 #[.slice a ss.length cap, .int .i64 20, .int .i64 300] w fun e w' => e = .returned (.bool false) ∧ w' = w) := F
  clear F hf h
  go_enter Try.func3, Try.ntmps3
  go_wp2_with fail
  refine HF.out.mono ?_
  rintro e w1 ⟨rfl, rfl⟩
  go_wp2_with (go_at_call 10; refine (awake_any _).mono ?_; rintro e w1 ⟨rfl, hb1⟩)
  go_ret
  exact ⟨rfl, hb1⟩

set_option maxHeartbeats 1000000 in
set_option maxRecDepth 100000 in
theorem walk_row (n : Int) (b off : Nat) (ss : List ByteArray) (cap : Nat) (hm : ss.length ≤ maxLen) (w : World) (hb : b < w.heap.size) (hcell : ∀ i, i < ss.length → w.cell? ⟨b, off + i, none⟩ = some (.string (ss.getD i ByteArray.empty))) (hf : fewB ss 20 300 = true) :
    Calls Try.prog 3 #[.int .i64 n, .slice (some ⟨b, off, none⟩) ss.length cap] w fun e w' => e = .returned (.bool true) ∧ Below w.heap.size w w' := by
  have F := few_row b off ss cap 20 300 hm w hcell
  rw [hf] at F
  have HF : Hid (Calls Try.prog 9 #[.slice (some ⟨b, off, none⟩) ss.length cap, .int .i64 20, .int .i64 300] w fun e w' => e = .returned (.bool true) ∧ w' = w) := F
  clear F
  obtain ⟨hl, hs⟩ := fewB_of hf
  have HS : Hid (∀ s ∈ ss, s.size ≤ 300) := fun s h => by have := hs s h; omega
  have HR : Hid (StrRow w (some ⟨b, off, none⟩) ss) := .inr ⟨b, off, rfl, hb, hcell⟩
  have HC : Hid (∀ i, i < ss.length → w.cell? ⟨b, off + i, none⟩ = some (.string (ss.getD i ByteArray.empty))) := hcell
  clear hcell hs hf
  go_enter Try.func3, Try.ntmps3
  go_wp2_with fail
  refine HF.out.mono ?_
  rintro e w1 ⟨rfl, rfl⟩
  go_wp2_with fail
  go_loopw [5] (fun v wr => ∃ k : Nat, k ≤ ss.length ∧ v = .int .i64 k ∧ Below w1.heap.size w1 wr) (fun v _ => ss.length - (intOf v).toNat)
  case atStart => exact ⟨0, Nat.zero_le _, rfl, Below.refl _ _⟩
  case round =>
    obtain ⟨k, hk, rfl, hbw⟩ := hrel
    by_cases hlt : k < ss.length
    · have hbl := hb
      have hcw : Hid (∀ W, Below w1.heap.size w1 W → W.cell? ⟨b, off + k, none⟩ = some (.string (ss.getD k ByteArray.empty))) := by
        intro W hW
        rw [hW.cell (p := ⟨b, off + k, none⟩) hbl]; exact HC.out k hlt
      have hsk : (ss.getD k ByteArray.empty).size ≤ 300 := HS.out _ (by simp [List.getD_eq_getElem?_getD, hlt])
      generalize ss.getD k ByteArray.empty = t at *
      have hcell := hcw.out wr hbw
      have hsz := hbw.size
      go_wp2_with fail
      go_region_with (first | (go_at_call 11; refine (text_any _ (by omega) _).mono ?_; rintro e w3 ⟨rfl, hb3⟩; have hz3 := hb3.size; have q3 : w3.cell? ⟨b, off + k, none⟩ = some (.string t) := (by rw [hb3.cell (p := ⟨b, off + k, none⟩) (by first | omega | (simp; omega))]; simp [*]); try simp only [World.size_drew] at hz3) | (go_at_call 12; refine (rtext_any _ (by omega) _).mono ?_; rintro e w4 ⟨rfl, hb4⟩; have hz4 := hb4.size; have q4 : w4.cell? ⟨b, off + k, none⟩ = some (.string t) := (by rw [hb4.cell (p := ⟨b, off + k, none⟩) (by first | omega | (simp; omega))]; simp [*]); try simp only [World.size_drew] at hz4))
      all_goals
        go_wp2
        go_roundw
        case rel => exact ⟨k + 1, by omega, by go_num, by first | exact bthen (bthen hbw.drew hb3) hb4 | exact bthen (bthen hbw.drew hb4) hb3⟩
        case measure => simp [intOf]; omega
    · have hr : StrRow wr (some ⟨b, off, none⟩) ss := HR.out.below hbw
      have HR2 : Hid (StrRow wr (some ⟨b, off, none⟩) ss) := hr
      clear hr
      go_wp2_with (first | (go_at_call 10; refine (awake_any _).mono ?_; rintro e w2 ⟨rfl, hb2⟩) | (go_at_call 13; refine (num_any _ _).mono ?_; rintro e w3 ⟨rfl, hb3⟩) | (go_at_call 14; refine (rnum_any _ _).mono ?_; rintro e w4 ⟨rfl, hb4⟩))
      refine (list_any _ ss cap (by omega) (fun s h => by have := HS.out s h; omega) _ (((HR2.out.below hb2).below hb3).below hb4)).mono ?_
      rintro e w5 ⟨rfl, hb5⟩
      go_wp2_with fail
      refine (rlist_any _ ss cap (by omega) (fun s h => by have := HS.out s h; omega) _ ((((HR2.out.below hb2).below hb3).below hb4).below hb5)).mono ?_
      rintro e w6 ⟨rfl, hb6⟩
      go_wp2
      go_ret
      exact ⟨rfl, bthen (bthen (bthen (bthen (bthen hbw hb2) hb3) hb4) hb5) hb6⟩

set_option maxHeartbeats 1000000 in
theorem walk_nil (n : Int) (a : Option Addr) (cap : Nat) (w : World) :
    Calls Try.prog 3 #[.int .i64 n, .slice a 0 cap] w fun e w' => e = .returned (.bool true) ∧ Below w.heap.size w w' := by
  have F := few_nil a cap 20 300 w
  rw [show fewB [] 20 300 = true by decide] at F
  have HF : Hid (Calls Try.prog 9 #[.slice a 0 cap, .int .i64 20, .int .i64 300] w fun e w' => e = .returned (.bool true) ∧ w' = w) := F
  clear F
  go_enter Try.func3, Try.ntmps3
  go_wp2_with fail
  refine HF.out.mono ?_
  rintro e w1 ⟨rfl, rfl⟩
  go_wp2_with fail
  refine wp_loop_rounds 1 ?_
  rw [rounds_succ]
  go_wp2_with (first | (go_at_call 10; refine (awake_any _).mono ?_; rintro e w2 ⟨rfl, hb2⟩) | (go_at_call 13; refine (num_any _ _).mono ?_; rintro e w3 ⟨rfl, hb3⟩) | (go_at_call 14; refine (rnum_any _ _).mono ?_; rintro e w4 ⟨rfl, hb4⟩) | (go_at_call 15; refine (list_nil _ _ _).mono ?_; rintro e w5 ⟨rfl, hb5⟩) | (go_at_call 16; refine (rlist_nil _ _ _).mono ?_; rintro e w6 ⟨rfl, hb6⟩))
  go_ret
  exact ⟨rfl, bthen (bthen (bthen (bthen hb2 hb3) hb4) hb5) hb6⟩

theorem walk (n : Int) (a : Option Addr) (ss : List ByteArray) (cap : Nat) (hm : ss.length ≤ maxLen) (w : World) (h : StrRow w a ss) :
    Calls Try.prog 3 #[.int .i64 n, .slice a ss.length cap] w fun e w' => e = .returned (.bool true) ∧ Below w.heap.size w w' := by
  cases hf : fewB ss 20 300
  · exact walk_many n a ss cap hm w h hf
  · rcases h with rfl | ⟨b, off, rfl, hb, hcell⟩
    · exact walk_nil n a cap w
    · exact walk_row n b off ss cap hm w hb hcell hf

theorem own : ownKnob Try.prog.godebug = none := by kernel_rfl
theorem laidOut : laidOutB Try.prog = true := by kernel_rfl
/-- A slice of texts that came in is a list of texts in memory. -/
theorem opened {H : Type} {enc : TypeId × Value → H} {W : World} {a : Option Addr} {len cap : Nat} {d : DataW H} {p : List MemPlace} (h : DataW.Trod enc Try.prog W 0 (fun _ => true) true 22 (.slice a len cap) d p) :
    ∃ ss : List ByteArray, ss.length = len ∧ ss.length ≤ maxLen ∧ (∀ s ∈ ss, s.size ≤ maxLen) ∧ StrRow W a ss := by
  obtain ⟨fuel, hf⟩ := h
  rcases open_strings Try.underlying22 Try.underlying9 (by kernel_rfl) hf with ⟨hcs, _⟩ | ⟨x, l, c, ss, hcs, _, hl, hm, hz, _, hcell, hws⟩
  · simp [Value.cells] at hcs
    obtain ⟨rfl, rfl, rfl⟩ := hcs
    exact ⟨[], rfl, Nat.zero_le _, by simp, .inl rfl⟩
  · simp [Value.cells] at hcs
    obtain ⟨rfl, rfl, rfl⟩ := hcs
    simp at hz
    refine ⟨ss.take len, by simp; omega, by simp; omega, fun s h => hws s (List.mem_of_mem_take h), ?_⟩
    by_cases h0 : len = 0
    · left; subst h0; simp
    · right
      obtain ⟨b, off, spot⟩ := x
      have h1 := hcell 0 (by omega)
      have hspot : spot = none := by simpa [Addr.add] using World.cell?_spot h1
      subst hspot
      have hlt : b < W.heap.size := by
        rcases Nat.lt_or_ge b W.heap.size with h2 | h2
        · exact h2
        · simp [Addr.add, World.cell?, Array.getElem?_eq_none h2] at h1
      refine ⟨b, off, rfl, hlt, fun i hi => ?_⟩
      have hi' : i < len := by simp at hi; omega
      have h2 := hcell i (by omega)
      rw [show (⟨b, off, none⟩ : Addr).add i = ⟨b, off + i, none⟩ by unfold Addr.add; split <;> simp_all] at h2
      rw [h2]
      simp [List.getD_eq_getElem?_getD, List.getElem?_take_of_lt hi']

set_option maxRecDepth 100000 in
theorem lifted (os : Os) (started : os.Started) (H : Type) (enc : TypeId × Value → H) :
    ReturnsInHanded {} Try.checked os 3 .any (Rows.octetNumsSpec.pre6 enc Try.prog Try.f3 Rows.octetNumsRow.domain false) (Rows.octetNumsSpec.post enc Try.prog Try.f3 false true false false) := by
  refine returnsInHanded_of_change (C := Try.checked) own started (by kernel_rfl) Try.func3
    (ChangeSpec.witness6 (enc := enc) (C := Try.checked) false ⟨#[], #[.int .i64 0, .slice none 0 0], []⟩ 8 (by kernel_rfl) (by kernel_rfl) (by kernel_rfl) (by kernel_rfl)) ?_
  intro W base args ds gs before hval0 hW hcnd _
  have hval : ∀ (j : Nat) t v, Try.f3.params[j]? = some t → args[j]? = some v → Value.okWide Try.prog W .any base t v := hval0
  have hW' := hW
  obtain ⟨p, q, hA0, hV, rfl, hfz, hnd⟩ := hW
  have hA : DataW.TrodAll enc Try.prog W 0 (fun _ => true) true Try.f3.params.toList args.toList ds p := hA0
  rw [Try.params3] at hA hval
  obtain ⟨v0, vs0, d0, ds0, p0, q0, hargs, rfl, rfl, h0, r0⟩ := trodAll_cons hA
  obtain ⟨v1, vs1, d1, ds1, p1, q1, rfl, rfl, rfl, h1, r1⟩ := trodAll_cons r0
  obtain ⟨rfl, rfl, rfl⟩ := trodAll_nil r1
  obtain rfl : args = #[v0, v1] := by cases args; simp_all
  obtain ⟨rfl, rfl⟩ := trodVars_none hV
  obtain ⟨a0, rfl, rfl, rfl, w0⟩ := open_int Try.underlying3 (hval 0 3 v0 rfl rfl) h0
  obtain ⟨a1, len1, cap1, rfl⟩ := okWide_slice Try.underlying22 (hval 1 22 v1 rfl rfl)
  have k1 := h1
  have lt1 : ∀ x ∈ p1, x.block < W.heap.size := by obtain ⟨m, hm⟩ := k1; exact DataW.trod_lt m _ _ _ hm
  obtain ⟨ss, rfl, hm, _, hrow⟩ := opened h1
  clear hA0 hval0
  refine (walk a0 a1 ss cap1 hm W hrow).mono fun e W' ⟨he, bel⟩ => ?_
  subst he
  exact ⟨_, rfl, _, _, _, [], _, [], hW', trodAll_mk1 (shut_bool Try.underlying4 _), (trodAll_cons_mk (shut_int Try.underlying3 w0) (trodAll_cons_mk (Below.trod laidOut (by kernel_rfl) (of_decide_eq_true (by kernel_rfl)) k1 bel lt1) trodAll_mk0)), rfl, bel.frame _, fun h => by cases h⟩

theorem over : Rows.octetNumsRow.holds Try.pinned (OpenSpec.ofChange Rows.octetNumsSpec) :=
  OpenClaim.holds_of_wide 3 Try.f3 rfl rfl rfl rfl rfl rfl rfl ⟨rfl, rfl, rfl, rfl, rfl⟩ rfl rfl rfl rfl rfl (by kernel_rfl) Try.func3 (by kernel_rfl)
    (of_decide_eq_true (by kernel_rfl)) (by unfold Func.isWrapper; first | (rw [if_pos (by decide +kernel)]; kernel_rfl) | (rw [if_neg (by decide +kernel)]; exact ⟨rfl, rfl⟩))
    (fun os started H enc _ => lifted os started H enc)
end LawNums

/-- The statement. -/
theorem octetNums_holds : Rows.OctetNumsSaid := LawNums.over
#print axioms octetNums_holds
end Go.Proofs.Ytmdippfemkceiaa
