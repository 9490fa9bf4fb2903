/- For every call that is named, and every input of MerkleBinds, the law returns true and its arguments read as before: what leads to one root at one place is one text, or there is a twin: two unlike texts of one digest, of those that are summed on the two ways. No condition. -/
import Derived.Test.YtfepgoddoohpbaaGreatMkL
import Derived.Test.YtfepgoddoohpbaaGreatRowW
namespace Go.Proofs.YtfepgoddoohpbaaGreat
section
open Go.RowKit

/-- The root to which Climb leads, or no text. -/
def rot (h i : Int) (leaf : ByteArray) (n : Nat) (P : Nat → ByteArray) : ByteArray := if cerr h i leaf n P = 0 then clv i.toNat P leaf n else ByteArray.mk #[]
theorem clm_tot (g : Nat) (a : Option Addr) (n cap : Nat) (h i : Int) (leaf : ByteArray) (P : Nat → ByteArray) (hn : n ≤ 1000000) : Clm g a n cap h i leaf P (rot h i leaf n P) (cerr h i leaf n P) := fun w t x => by
  by_cases e : cerr h i leaf n P = 0
  · obtain ⟨j, rfl, rfl, h1, h2, h3, h4⟩ := cerr_ok e
    refine (climb_ok g a n cap j leaf P h1 h2 h3 h4 w t x).mono ?_
    rintro e' w' ⟨v, rfl, _, hb⟩
    refine ⟨v, ?_, hb⟩
    unfold rot
    rw [if_pos e, e, Int.toNat_natCast]
    rfl
  · refine (climb_bad g a n cap h i leaf P hn e w x).mono ?_
    rintro e' w' ⟨rfl, hb⟩
    refine ⟨.slice none 0 0, ?_, hb⟩
    unfold rot
    rw [if_neg e]
theorem twx_zero (i : Nat) (P : Nat → ByteArray) (a : ByteArray) : twx i P a 0 = ByteArray.mk #[0] ++ a := by unfold twx; rfl
theorem twx_step (i : Nat) (P : Nat → ByteArray) (a : ByteArray) (k : Nat) : clt i P (lfv a) k = twx i P a (k + 1) := by rw [twx]
/-- Two ways that lead to one root. -/
theorem mb_way (a o : Option Addr) (n cap co j : Nat) (s t : ByteArray) (W : World) (P Q : Nat → ByteArray) (p1 : n ≤ 12) (p2 : j < 2 ^ n) (hs : s.size ≤ 100) (ht : t.size ≤ 100) (q4 : s ≠ t) (p4 : ∀ k, k < n → (P k).size = 32) (r4 : ∀ k, k < n → (Q k).size = 32) (q3 : clv j P (lfv s) n = clv j Q (lfv t) n) (txa : Txs W a n P) (txb : Txs W o n Q)
    (HF : Hid (∀ w, Below W.heap.size W w → Calls Tryz.prog 18 #[.agg #[.int .i64 (n : Int), .int .i64 (j : Int), .slice a n cap]] w fun e w' => e = .returned (.bool true) ∧ Below w.heap.size w w'))
    (HG : Hid (∀ w, Below W.heap.size W w → Calls Tryz.prog 6 #[.slice o n co, .int .i64 6, .int .i64 100] w fun e w' => e = .returned (.bool true) ∧ w' = w)) :
    Calls Tryz.prog 5 #[.agg #[.int .i64 (n : Int), .int .i64 (j : Int), .slice a n cap], .slice o n co, .agg #[.string s, .string t]] W fun e w' => e = .returned (.bool true) ∧ Below W.heap.size W w' := by
  have HC : Hid (∀ g, ClT g a n cap j (lfv s) P (clv j P (lfv s) n) (clt j P (lfv s))) := fun g w t' x => (climb_ok g a n cap j (lfv s) P p1 p2 (lfv_size s) p4 w t' x).mono fun e w' ⟨v, h1, h2, h3⟩ => by
    obtain ⟨a5, c5, rfl, h4⟩ := own_txs h2
    exact ⟨a5, c5, h1, h4, h3⟩
  have HE : Hid (∀ g, ClT g o n co j (lfv t) Q (clv j P (lfv s) n) (clt j Q (lfv t))) := fun g w t' x => (climb_ok g o n co j (lfv t) Q p1 p2 (lfv_size t) r4 w t' x).mono fun e w' ⟨v, h1, h2, h3⟩ => by
    obtain ⟨a5, c5, rfl, h4⟩ := own_txs h2
    exact ⟨a5, c5, by rw [q3]; exact h1, h4, h3⟩
  have HTw : Hid (∀ g w, Tab w g → Txs w a n P → Txs w o n Q → Calls Tryz.prog 22 #[.pointer (some ⟨g, 0, none⟩), .int .i64 (n : Int), .int .i64 (j : Int), .string s, .string t, .slice a n cap, .slice o n co] w fun e w' => ∃ k xk yk, k ≤ n ∧ e = .returned (.tuple #[.string xk, .string yk, .bool true]) ∧ Tz (twx j P s) (twx j Q t) k xk yk ∧ Below w.heap.size w w') := fun g w t' x y => by
    refine (twin_ok g n j cap co a o s t P Q p1 p2 (by omega) (by omega) p4 r4 q4 q3 w t' x y).mono ?_
    rintro e w' ⟨k, hk, rfl, hsum, hlow, hb⟩
    exact ⟨k, _, _, hk, rfl, ⟨rfl, rfl, twx_ne p4 r4 q4 k hk hlow, hsum, twx_size (by omega) p4 k hk, twx_size (by omega) r4 k hk⟩, hb⟩
  have HX1 : Hid (∀ k, clt j P (lfv s) k = twx j P s (k + 1) ∧ clt j Q (lfv t) k = twx j Q t (k + 1)) := fun k => ⟨twx_step j P s k, twx_step j Q t k⟩
  have z1 := twx_zero j P s
  have z2 := twx_zero j Q t
  generalize clt j P (lfv s) = f1' at *
  generalize clt j Q (lfv t) = f2' at *
  generalize clv j P (lfv s) n = r at *
  generalize twx j P s = X at *
  generalize twx j Q t = Y at *
  exact mb_yes a o n cap co j s t W P Q X Y f1' f2' r p1 hs ht q4 txa txb z1 z2 HX1 HC HE HTw HF HG
theorem mb_any (a o : Option Addr) (ss os : List ByteArray) (cap co : Nat) (h i : Int) (s t : ByteArray) (hm : ss.length ≤ maxLen) (ho : os.length ≤ maxLen) (W : World) (hX : StrRow W a ss) (hY : StrRow W o os) :
    Calls Tryz.prog 5 #[.agg #[.int .i64 h, .int .i64 i, .slice a ss.length cap], .slice o os.length co, .agg #[.string s, .string t]] W fun e w' => e = .returned (.bool true) ∧ Below W.heap.size W w' := by
  have HF : Hid (∀ w, Below W.heap.size W w → Calls Tryz.prog 18 #[.agg #[.int .i64 h, .int .i64 i, .slice a ss.length cap]] w fun e w' => e = .returned (.bool (wayB ss h)) ∧ Below w.heap.size w w') := fun w b => few_way a ss cap h i hm w (hX.below b)
  have HG : Hid (∀ w, Below W.heap.size W w → Calls Tryz.prog 6 #[.slice o os.length co, .int .i64 6, .int .i64 100] w fun e w' => e = .returned (.bool (fewB os 6 100)) ∧ w' = w) := fun w b => few_any o os co 6 100 ho w (hY.below b)
  cases hf : wayB ss h
  · rw [hf] at HF
    exact mb_s1 a o ss.length cap os.length co h i s t W HF
  rw [hf] at HF
  cases hg : fewB os 6 100
  · rw [hg] at HG
    exact mb_s2 a o ss.length cap os.length co h i s t W HF HG
  rw [hg] at HG
  by_cases hs : 100 < s.size
  · exact mb_s3 a o ss.length cap os.length co h i s t W HF HG hs
  by_cases ht : 100 < t.size
  · exact mb_s4 a o ss.length cap os.length co h i s t W HF HG (by omega) ht
  have n1 : ss.length ≤ 6 := by
    unfold wayB at hf
    rw [Bool.and_eq_true] at hf
    have := (fewB_of hf.1).1
    omega
  have n2 : os.length ≤ 6 := by have := (fewB_of hg).1; omega
  have txa := hX.txs
  have txb := hY.txs
  generalize hPd : (fun i => ss.getD i ByteArray.empty) = P at txa
  generalize hQd : (fun i => os.getD i ByteArray.empty) = Q at txb
  have hC : ∀ g, Clm g a ss.length cap h i (lfv s) P (rot h i (lfv s) ss.length P) (cerr h i (lfv s) ss.length P) := fun g => clm_tot g a ss.length cap h i (lfv s) P (by omega)
  have hD : ∀ g, Clm g o os.length co h i (lfv t) Q (rot h i (lfv t) os.length Q) (cerr h i (lfv t) os.length Q) := fun g => clm_tot g o os.length co h i (lfv t) Q (by omega)
  by_cases q1 : cerr h i (lfv s) ss.length P = 0
  · by_cases q2 : cerr h i (lfv t) os.length Q = 0
    · by_cases q3 : rot h i (lfv s) ss.length P = rot h i (lfv t) os.length Q
      · by_cases q4 : s = t
        · subst q4
          exact mb_n4 a o ss.length cap os.length co h i s W P Q _ _ _ _ (by omega) txa txb q1 q2 q3 (.inr (.inr (.inr rfl))) hC hD HF HG
        · obtain ⟨j, rfl, rfl, p1, p2, p3, p4⟩ := cerr_ok q1
          obtain ⟨j', e1, e2, r1, r2, r3, r4⟩ := cerr_ok q2
          obtain rfl : j = j' := by omega
          have hnm : os.length = ss.length := by omega
          unfold rot at q3
          rw [if_pos q1, if_pos q2, Int.toNat_natCast] at q3
          clear hC hD q1 q2 hPd hQd hX hY hf hg e1 e2 r2
          rw [hnm] at txb HG q3 r4 ⊢
          clear r1 hnm
          generalize ss.length = n at *
          exact mb_way a o n cap co j s t W P Q p1 p2 (by omega) (by omega) q4 p4 r4 q3 txa txb HF HG
      · exact mb_n3 a o ss.length cap os.length co h i s t W P Q _ _ _ _ (by omega) (by omega) txa txb q1 q2 q3 (.inr (.inr (.inl q3))) hC hD HF HG
    · exact mb_n2 a o ss.length cap os.length co h i s t W P Q _ _ _ _ (by omega) (by omega) txa txb q1 q2 (.inr (.inl q2)) hC hD HF HG
  · exact mb_n1 a o ss.length cap os.length co h i s t W P Q _ _ _ _ (by omega) (by omega) txa txb q1 (.inl q1) hC hD HF HG
end
open Go.ChangeShapes Go.WideShapes Go.ChangeAt Go.RowKit Go.Joins
namespace LawMerkleBinds

set_option maxRecDepth 100000 in
theorem lifted (os : Os) (started : os.Started) (H : Type) (enc : TypeId × Value → H) :
    ReturnsInHanded {} Tryz.checked os 5 .any (Rows.merkleBindsSpec.pre6 enc Tryz.prog Tryz.f5 Rows.merkleBindsRow.domain false) (Rows.merkleBindsSpec.post enc Tryz.prog Tryz.f5 false true false false) := by
  refine returnsInHanded_of_change (C := Tryz.checked) own started (by kernel_rfl) Tryz.func5
    (ChangeSpec.witness6 (enc := enc) (C := Tryz.checked) false ⟨#[], #[.agg #[.int .i64 0, .int .i64 0, .slice none 0 0], .slice none 0 0, .agg #[.string (ByteArray.mk #[]), .string (ByteArray.mk #[])]], []⟩ 8 (by kernel_rfl) (by kernel_rfl) (by kernel_rfl) (by kernel_rfl)) ?_
  intro W base args ds gs before hval0 hW hcnd _
  have hval : ∀ (j : Nat) t v, Tryz.f5.params[j]? = some t → args[j]? = some v → Value.okWide Tryz.prog W .any base t v := hval0
  have hW' := hW
  obtain ⟨p, q, hA0, hV, rfl, hfz, hnd⟩ := hW
  have hA : DataW.TrodAll enc Tryz.prog W 0 (fun _ => true) true Tryz.f5.params.toList args.toList ds p := hA0
  rw [Tryz.params5] at hA hval
  obtain ⟨v0, vs0, d0, ds0, p0, q0, hargs, rfl, rfl, h0, r0⟩ := trodAll_cons hA
  obtain ⟨v1, vs1, d1, ds1, p1, q1, rfl, rfl, rfl, h1, r1⟩ := trodAll_cons r0
  obtain ⟨v2, vs2, d2, ds2, p2, q2, rfl, rfl, rfl, h2, r2⟩ := trodAll_cons r1
  obtain ⟨rfl, rfl, rfl⟩ := trodAll_nil r2
  obtain rfl : args = #[v0, v1, v2] := by cases args; simp_all
  obtain ⟨rfl, rfl⟩ := trodVars_none hV
  have k0 := h0
  have lt0 : ∀ x ∈ p0, x.block < W.heap.size := by obtain ⟨m, hm⟩ := k0; exact DataW.trod_lt m _ _ _ hm
  obtain ⟨x0, y0, a0, cap0, ss0, rfl, hm0, hr0⟩ := open_way (hval 0 47 v0 rfl rfl) h0
  have k1 := h1
  have lt1 : ∀ x ∈ p1, x.block < W.heap.size := by obtain ⟨m, hm⟩ := k1; exact DataW.trod_lt m _ _ _ hm
  obtain ⟨s1, len1, cap1, rfl⟩ := okWide_slice Tryz.underlying22 (hval 1 22 v1 rfl rfl)
  obtain ⟨ss1, rfl, hm1, hz1, hr1⟩ := open_strs h1
  have k2 := h2
  have lt2 : ∀ x ∈ p2, x.block < W.heap.size := by obtain ⟨m, hm⟩ := k2; exact DataW.trod_lt m _ _ _ hm
  obtain ⟨s2, t2, rfl⟩ := open_two (hval 2 56 v2 rfl rfl) h2
  clear hA0 hval0
  refine (mb_any a0 s1 ss0 ss1 cap0 cap1 x0 y0 s2 t2 hm0 hm1 W hr0 hr1).mono fun e W' ⟨he, bel⟩ => ?_
  subst he
  exact ⟨_, rfl, _, _, _, [], _, [], hW', trodAll_mk1 (shut_bool Tryz.underlying4 _), (trodAll_cons_mk (Below.trod laidOut (by kernel_rfl) (of_decide_eq_true (by kernel_rfl)) k0 bel lt0) (trodAll_cons_mk (Below.trod laidOut (by kernel_rfl) (of_decide_eq_true (by kernel_rfl)) k1 bel lt1) (trodAll_cons_mk (Below.trod laidOut (by kernel_rfl) (of_decide_eq_true (by kernel_rfl)) k2 bel lt2) trodAll_mk0))), rfl, bel.frame _, fun h => by cases h⟩

theorem over : Rows.merkleBindsRow.holds Tryz.pinned (OpenSpec.ofChange Rows.merkleBindsSpec) :=
  OpenClaim.holds_of_wide 5 Tryz.f5 rfl rfl rfl rfl rfl rfl rfl ⟨rfl, rfl, rfl, rfl, rfl⟩ rfl rfl rfl rfl rfl (by kernel_rfl) Tryz.func5 (by kernel_rfl)
    (of_decide_eq_true (by kernel_rfl)) (by unfold Func.isWrapper; first | (rw [if_pos (by decide +kernel)]; kernel_rfl) | (rw [if_neg (by decide +kernel)]; exact ⟨rfl, rfl⟩))
    (fun os started H enc _ => lifted os started H enc)
end LawMerkleBinds

/-- The statement. -/
theorem merkleBinds_holds : Rows.MerkleBindsSaid := LawMerkleBinds.over
#print axioms merkleBinds_holds
end Go.Proofs.YtfepgoddoohpbaaGreat
