/- For every call that is named, and every input of MerkleClimbs, the law returns true and its arguments read as before: where any path leads, which texts are summed on the way, or the error, is what the document says; and Check says whether the leaf leads there. No condition. -/
import Derived.Test.YthmjbdmnlkbllaaGreatRmGa
import Derived.Test.YthmjbdmnlkbllaaGreatRmGb
import Derived.Test.YthmjbdmnlkbllaaGreatRmGc
import Derived.Test.YthmjbdmnlkbllaaGreatRowL
namespace Go.Proofs.YthmjbdmnlkbllaaGreat
section
open Go.RowKit

theorem cerr_of (h i : Int) (leaf : ByteArray) (n : Nat) (P : Nat → ByteArray) : cerr h i leaf n P = 0 ∨ cerr h i leaf n P = 1 ∨ cerr h i leaf n P = 6 := by
  unfold cerr
  split
  · exact .inr (.inl rfl)
  · split
    · exact .inr (.inr rfl)
    · exact .inl rfl
theorem mc_any (a : Option Addr) (ss : List ByteArray) (cap : Nat) (h i : Int) (leaf s : ByteArray) (hm : ss.length ≤ maxLen) (W : World) (hX : StrRow W a ss) :
    Calls Tryz.prog 3 #[.agg #[.int .i64 h, .int .i64 i, .slice a ss.length cap], .string leaf, .string s] W fun e w' => e = .returned (.bool true) ∧ Below W.heap.size W w' := by
  have HF : Hid (∀ w, Below W.heap.size W w → Calls Tryz.prog 4 #[.agg #[.int .i64 h, .int .i64 i, .slice a ss.length cap]] w fun e w' => e = .returned (.bool (wayB ss h)) ∧ Below w.heap.size w w') := fun w b => few_way a ss cap h i hm w (hX.below b)
  cases hf : wayB ss h
  · rw [hf] at HF
    exact mc_s1 a ss.length cap h i leaf s W HF
  rw [hf] at HF
  by_cases hs : 100 < leaf.size
  · exact mc_s2 a ss.length cap h i leaf s W HF hs
  by_cases ht : 100 < s.size
  · exact mc_s3 a ss.length cap h i leaf s W HF (by omega) ht
  have n1 : ss.length ≤ 6 := by
    unfold wayB at hf
    rw [Bool.and_eq_true] at hf
    have := (fewB_of hf.1).1
    omega
  have txa := hX.txs
  generalize (fun i => ss.getD i ByteArray.empty) = P at txa
  generalize ss.length = n at *
  have HC : Hid (∀ g, ClX g a n cap h i leaf P (crt h i leaf n P) (cnt h i leaf n P) (clt i.toNat P leaf) (cerr h i leaf n P)) := fun g => clx_tot g a n cap h i leaf P (by omega)
  have HR : Hid (∀ gB cB gT cT gs cs, RlX gB cB gT cT gs cs a n cap h i leaf P (crt h i leaf n P) (cnt h i leaf n P) (clt i.toNat P leaf) (cerr h i leaf n P)) := fun gB cB gT cT gs cs => rlx_tot gB cB gT cT gs cs a n cap h i leaf P (by omega)
  have HD : ∀ gB cB gT cT gs cs, RlX gB cB gT cT gs cs a n cap h i (lfv s) P (crt h i (lfv s) n P) (cnt h i (lfv s) n P) (clt i.toNat P (lfv s)) (cerr h i (lfv s) n P) := fun gB cB gT cT gs cs => rlx_tot gB cB gT cT gs cs a n cap h i (lfv s) P (by omega)
  have HK : ∀ root g w, Tab w g → Txs w a n P → Calls Tryz.prog 12 #[.pointer (some ⟨g, 0, none⟩), .string root, .int .i64 h, .int .i64 i, .string s, .slice a n cap] w fun e w' => e = .returned (.bool (decide (cerr h i (lfv s) n P = 0) && ((crt h i (lfv s) n P).toList == root.toList))) ∧ Below w.heap.size w w' := fun root g w t x => check_tot g a n cap h i root s P _ _ _ _ (by omega) (clx_tot g a n cap h i (lfv s) P (by omega)) w t x
  have hc : cnt h i leaf n P ≤ 1000 := by unfold cnt; split <;> omega
  generalize cnt h i leaf n P = m at *
  generalize crt h i leaf n P = r at *
  generalize clt i.toNat P leaf = T at *
  generalize cerr h i leaf n P = E at *
  generalize crt h i (lfv s) n P = r2 at *
  generalize cnt h i (lfv s) n P = m2 at *
  rcases cerr_of h i (lfv s) n P with e | e | e
  · rw [e] at HD
    have HK' : ∀ root g w, Tab w g → Txs w a n P → Calls Tryz.prog 12 #[.pointer (some ⟨g, 0, none⟩), .string root, .int .i64 h, .int .i64 i, .string s, .slice a n cap] w fun e w' => e = .returned (.bool (r2.toList == root.toList)) ∧ Below w.heap.size w w' := fun root g w t x => by
      have := HK root g w t x
      rw [e] at this
      simpa using this
    refine mc_zero a n cap h i leaf s W P r m T E r2 m2 hc (by omega) (by omega) txa _ rfl HC HR (fun gB cB gT cT gs cs w t x => (HD gB cB gT cT gs cs w t x).mono ?_) (HK' leaf) ?_ HF
    · rintro e' w' ⟨a5, c5, rfl, _, hb⟩
      exact ⟨a5, c5, rfl, hb⟩
    · intro g w t x
      have := HK' r2 g w t x
      rw [beq_self_eq_true] at this
      exact this
  · rw [e] at HD
    refine mc_one a n cap h i leaf s W P r m T E r2 m2 hc (by omega) (by omega) txa HC HR (fun gB cB gT cT gs cs w t x => (HD gB cB gT cT gs cs w t x).mono ?_) ?_ HF
    · rintro e' w' ⟨a5, c5, rfl, _, hb⟩
      exact ⟨a5, c5, rfl, hb⟩
    · intro g w t x
      have := HK leaf g w t x
      rw [e] at this
      exact this
  · rw [e] at HD
    refine mc_six a n cap h i leaf s W P r m T E r2 m2 hc (by omega) (by omega) txa HC HR (fun gB cB gT cT gs cs w t x => (HD gB cB gT cT gs cs w t x).mono ?_) ?_ HF
    · rintro e' w' ⟨a5, c5, rfl, _, hb⟩
      exact ⟨a5, c5, rfl, hb⟩
    · intro g w t x
      have := HK leaf g w t x
      rw [e] at this
      exact this
end
open Go.ChangeShapes Go.WideShapes Go.ChangeAt Go.RowKit Go.Joins
namespace LawMerkleClimbs

set_option maxRecDepth 100000 in
theorem lifted (os : Os) (started : os.Started) (H : Type) (enc : TypeId × Value → H) :
    ReturnsInHanded {} Tryz.checked os 3 .any (Rows.merkleClimbsSpec.pre6 enc Tryz.prog Tryz.f3 Rows.merkleClimbsRow.domain false) (Rows.merkleClimbsSpec.post enc Tryz.prog Tryz.f3 false true false false) := by
  refine returnsInHanded_of_change (C := Tryz.checked) own started (by kernel_rfl) Tryz.func3
    (ChangeSpec.witness6 (enc := enc) (C := Tryz.checked) false ⟨#[], #[.agg #[.int .i64 0, .int .i64 0, .slice none 0 0], .string (ByteArray.mk #[]), .string (ByteArray.mk #[])], []⟩ 8 (by kernel_rfl) (by kernel_rfl) (by kernel_rfl) (by kernel_rfl)) ?_
  intro W base args ds gs before hval0 hW hcnd _
  have hval : ∀ (j : Nat) t v, Tryz.f3.params[j]? = some t → args[j]? = some v → Value.okWide Tryz.prog W .any base t v := hval0
  have hW' := hW
  obtain ⟨p, q, hA0, hV, rfl, hfz, hnd⟩ := hW
  have hA : DataW.TrodAll enc Tryz.prog W 0 (fun _ => true) true Tryz.f3.params.toList args.toList ds p := hA0
  rw [Tryz.params3] at hA hval
  obtain ⟨v0, vs0, d0, ds0, p0, q0, hargs, rfl, rfl, h0, r0⟩ := trodAll_cons hA
  obtain ⟨v1, vs1, d1, ds1, p1, q1, rfl, rfl, rfl, h1, r1⟩ := trodAll_cons r0
  obtain ⟨v2, vs2, d2, ds2, p2, q2, rfl, rfl, rfl, h2, r2⟩ := trodAll_cons r1
  obtain ⟨rfl, rfl, rfl⟩ := trodAll_nil r2
  obtain rfl : args = #[v0, v1, v2] := by cases args; simp_all
  obtain ⟨rfl, rfl⟩ := trodVars_none hV
  have k0 := h0
  have lt0 : ∀ x ∈ p0, x.block < W.heap.size := by obtain ⟨m, hm⟩ := k0; exact DataW.trod_lt m _ _ _ hm
  obtain ⟨x0, y0, a0, cap0, ss0, rfl, hm0, hr0⟩ := open_way (hval 0 24 v0 rfl rfl) h0
  obtain ⟨s1, rfl, rfl, rfl, hs1⟩ := Go.ChangeMaps.open_string Tryz.underlying9 (hval 1 9 v1 rfl rfl) h1
  obtain ⟨s2, rfl, rfl, rfl, hs2⟩ := Go.ChangeMaps.open_string Tryz.underlying9 (hval 2 9 v2 rfl rfl) h2
  clear hA0 hval0
  refine (mc_any a0 ss0 cap0 x0 y0 s1 s2 hm0 W hr0).mono fun e W' ⟨he, bel⟩ => ?_
  subst he
  exact ⟨_, rfl, _, _, _, [], _, [], hW', trodAll_mk1 (shut_bool Tryz.underlying4 _), (trodAll_cons_mk (Below.trod laidOut (by kernel_rfl) (of_decide_eq_true (by kernel_rfl)) k0 bel lt0) (trodAll_cons_mk (Go.ChangeMaps.shut_string Tryz.underlying9 hs1) (trodAll_cons_mk (Go.ChangeMaps.shut_string Tryz.underlying9 hs2) trodAll_mk0))), rfl, bel.frame _, fun h => by cases h⟩

theorem over : Rows.merkleClimbsRow.holds Tryz.pinned (OpenSpec.ofChange Rows.merkleClimbsSpec) :=
  OpenClaim.holds_of_wide 3 Tryz.f3 rfl rfl rfl rfl rfl rfl rfl ⟨rfl, rfl, rfl, rfl, rfl⟩ rfl rfl rfl rfl rfl (by kernel_rfl) Tryz.func3 (by kernel_rfl)
    (of_decide_eq_true (by kernel_rfl)) (by unfold Func.isWrapper; first | (rw [if_pos (by decide +kernel)]; kernel_rfl) | (rw [if_neg (by decide +kernel)]; exact ⟨rfl, rfl⟩))
    (fun os started H enc _ => lifted os started H enc)
end LawMerkleClimbs

/-- The statement. -/
theorem merkleClimbs_holds : Rows.MerkleClimbsSaid := LawMerkleClimbs.over
#print axioms merkleClimbs_holds
end Go.Proofs.YthmjbdmnlkbllaaGreat
