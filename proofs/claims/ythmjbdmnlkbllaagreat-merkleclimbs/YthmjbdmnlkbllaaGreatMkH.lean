/- The contracts of merkle's Check and of the document's Height; the path of a leaf leads to the root; the walk of MerkleProves, over the seat's translation. -/
import Derived.Test.YthmjbdmnlkbllaaGreatMkG
import Derived.Test.YthmjbdmnlkbllaaGreatMkF
namespace Go.Proofs.YthmjbdmnlkbllaaGreat
open Go.RowKit

set_option maxHeartbeats 1000000 in
set_option maxRecDepth 100000 in
theorem check_any (g : Nat) (a : Option Addr) (h cap i : Nat) (root s : ByteArray) (P : Nat → ByteArray) (hh : h ≤ 12) (hi : i < 2 ^ h) (hs : s.size ≤ 1048575) (hp : ∀ k, k < h → (P k).size = 32) (W : World) (hT : Tab W g) (hX : Txs W a h P) :
    Calls Tryz.prog 12 #[.pointer (some ⟨g, 0, none⟩), .string root, .int .i64 (h : Int), .int .i64 (i : Int), .string s, .slice a h cap] W fun e w' => e = .returned (.bool ((clv i P (lfv s) h).toList == root.toList)) ∧ Below W.heap.size W w' := by
  have H1 : Hid (∀ w, Tab w g → Calls Tryz.prog 17 #[.pointer (some ⟨g, 0, none⟩), .string s] w fun e w' => e = .returned (.string (lfv s)) ∧ Below w.heap.size w w') := fun w t => leaf_ok g s hs w t
  have H2 : Hid (∀ w, Tab w g → Txs w a h P → Calls Tryz.prog 8 #[.pointer (some ⟨g, 0, none⟩), .int .i64 (h : Int), .int .i64 (i : Int), .string (lfv s), .slice a h cap] w fun e w' => ∃ v, e = .returned (.tuple #[.string (clv i P (lfv s) h), v, .int .i64 0]) ∧ Below w.heap.size w w') := fun w t x => (climb_ok g a h cap i (lfv s) P hh hi (lfv_size s) hp w t x).mono fun e w' ⟨v, h1, _, h3⟩ => ⟨v, h1, h3⟩
  have HT : Hid (Tab W g) := hT
  have HX : Hid (Txs W a h P) := hX
  clear hT hX hi hp
  generalize clv i P (lfv s) h = r at *
  generalize lfv s = l at *
  go_enter Tryz.func12, Tryz.ntmps12
  go_wp2_with (first | (go_at_call 17; refine (H1.out _ HT.out).mono ?_; rintro e w1 ⟨rfl, hb1⟩) | (go_at_call 8; refine (H2.out _ (HT.out.below hb1) (HX.out.below hb1)).mono ?_; rintro e w2 ⟨v, rfl, hb2⟩))
  go_ret
  exact ⟨rfl, hb1.trans (hb2.mono hb1.size)⟩
theorem clv_path (f : Nat → ByteArray) (i : Nat) : ∀ k, clv i (fun k => lv f k (sib i k)) (lfv (f i)) k = lv f k (i / 2 ^ k)
  | 0 => by show lfv (f i) = lfv (f (i / 2 ^ 0)); rw [Nat.pow_zero, Nat.div_one]
  | k + 1 => by
    show smv (ctx i k (clv i (fun k => lv f k (sib i k)) (lfv (f i)) k) (lv f k (sib i k))) = _
    rw [clv_path f i k]
    have e1 : i / 2 ^ (k + 1) = i / 2 ^ k / 2 := by rw [Nat.pow_succ, Nat.div_div_eq_div_mul]
    show _ = ndv (lv f k (2 * (i / 2 ^ (k + 1)))) (lv f k (2 * (i / 2 ^ (k + 1)) + 1))
    rw [e1]
    unfold sib ctx ndv
    generalize i / 2 ^ k = x
    rw [xor_one]
    by_cases e : x % 2 = 0
    · rw [if_pos e, if_pos e, show 2 * (x / 2) = x by omega]
    · rw [if_neg e, if_neg e, show 2 * (x / 2) = x - 1 by omega, show x - 1 + 1 = x by omega]
/-- How many leaves there are, or that they fill no tree. -/
theorem fil_cases (n : Nat) : (filB n = true ∧ ∃ h, h ≤ 12 ∧ n = 2 ^ h) ∨ (filB n = false ∧ ∀ h, h ≤ 12 → n ≠ 2 ^ h) := by
  cases e : filB n
  · exact .inr ⟨rfl, fun h hh hn => by rw [hn, fil_pow h hh] at e; cases e⟩
  · exact .inl ⟨rfl, fil_two e⟩
theorem StrRow.txs {w : World} {a : Option Addr} {ss : List ByteArray} (h : StrRow w a ss) : Txs w a ss.length (fun i => ss.getD i ByteArray.empty) := ⟨fun i hi => by
  rcases h with rfl | ⟨b, off, rfl, hb, hc⟩
  · simp at hi
  · exact ⟨b, off, rfl, hb, hc i hi⟩⟩
end Go.Proofs.YthmjbdmnlkbllaaGreat
