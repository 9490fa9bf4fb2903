/- Signs of turns by carries are the sums of weights, and the sum of signs times bits is the value of the turned bits: no Go in sight. -/
import Derived.Test.YtejoombhcnldmaaPWvD
import Derived.Test.YtejoombhcnldmaaPTuE
import Derived.Test.YtejoombhcnldmaaPeel
namespace Go.Proofs.Ytejoombhcnldmaa
open Go.RowKit
open Cb
open Tw (pm)

theorem xs_add (f : Nat → Nat × Nat) (a : Nat) : ∀ b, xs (a + b) f = xa (xs a f) (xs b fun i => f (a + i))
  | 0 => by simp only [Nat.add_zero, xs, xa_zero]
  | b + 1 => by rw [← Nat.add_assoc]; simp only [xs]; rw [xs_add f a b, xa_assoc]
theorem xs_pm (t : Nat × Nat) (f : Nat → Nat × Nat) : ∀ n, pm (xs n f) t = xs n fun i => pm (f i) t
  | 0 => by simp only [xs, zero_pm]
  | n + 1 => by simp only [xs]; rw [xa_pm, xs_pm t f n]
theorem xs_none {f : Nat → Nat × Nat} : ∀ n, (∀ i, i < n → f i = (0, 0)) → xs n f = (0, 0)
  | 0, _ => rfl
  | n + 1, h => by simp only [xs]; rw [xs_none n (fun i hi => h i (by omega)), h n (by omega), xa_zero]
theorem xs_two (f g : Nat → Nat × Nat) : ∀ n, xs n (fun i => xa (f i) (g i)) = xa (xs n f) (xs n g)
  | 0 => by simp only [xs, xa_zero]
  | n + 1 => by
    simp only [xs]
    rw [xs_two f g n, xa_assoc, xa_assoc, xa_left (xs n g) (f n) (g n)]
/-- Two sums over pairs go in any order. -/
theorem xs_swap (f : Nat → Nat → Nat × Nat) (m : Nat) : ∀ n, xs n (fun i => xs m (f i)) = xs m fun k => xs n fun i => f i k
  | 0 => by simp only [xs]; exact (xs_none m (fun _ _ => rfl)).symm
  | n + 1 => by simp only [xs]; rw [xs_swap f m n, xs_two]
theorem xs_pick (g : Nat → Nat × Nat) (c : Int) : ∀ n : Nat, xs n (fun i => if c = (i : Int) then g i else (0, 0)) = if 0 ≤ c ∧ c < (n : Int) then g c.toNat else (0, 0)
  | 0 => by rw [if_neg (by omega)]; rfl
  | n + 1 => by
    simp only [xs]
    rw [xs_pick g c n]
    by_cases h1 : c = (n : Int)
    · subst h1
      rw [if_neg (by omega), if_pos rfl, if_pos (by omega), zero_xa, Int.toNat_natCast]
    · rw [if_neg h1, xa_zero]
      by_cases h2 : 0 ≤ c ∧ c < (n : Int)
      · rw [if_pos h2, if_pos (by omega)]
      · rw [if_neg h2, if_neg (by omega)]
theorem wtf_low : ∀ (p : List (Nat × Nat)) (o : Nat × Nat) (x z : Nat), wtf o p (x + 2 ^ p.length * z) = wtf o p x
  | [], _, _, _ => rfl
  | e :: p, o, x, z => by
    simp only [wtf, List.length_cons]
    have h1 : (x + 2 ^ (p.length + 1) * z) / 2 = x / 2 + 2 ^ p.length * z := by
      rw [show 2 ^ (p.length + 1) * z = 2 * (2 ^ p.length * z) by rw [Nat.pow_succ, Nat.mul_comm (2 ^ p.length) 2, Nat.mul_assoc], Nat.add_mul_div_left _ _ (by decide)]
    have h2 : (x + 2 ^ (p.length + 1) * z) % 2 = x % 2 := by
      rw [show 2 ^ (p.length + 1) * z = 2 * (2 ^ p.length * z) by rw [Nat.pow_succ, Nat.mul_comm (2 ^ p.length) 2, Nat.mul_assoc], Nat.add_mul_mod_self_left]
    have h3 : fac e (x + 2 ^ (p.length + 1) * z) = fac e x := by unfold fac; rw [h2]
    rw [h1, h3, wtf_low p]
/-- The weight with one coordinate more. -/
theorem wt_more (p : List (Nat × Nat)) (e : Nat × Nat) {x b : Nat} (hx : x < 2 ^ p.length) : wt (p ++ [e]) (x + 2 ^ p.length * b) = pm (wt p x) (fac e b) := by
  unfold wt
  rw [wtf_snoc, wtf_low]
  have h : (x + 2 ^ p.length * b) / 2 ^ p.length = b := by rw [Nat.add_mul_div_left _ _ (Nat.two_pow_pos _), Nat.div_eq_of_lt hx, Nat.zero_add]
  rw [h]
/-- The carries of the first bits: which x is it that y goes to (or, to the right, comes from), with the carry c. -/
def rel (rt : Bool) (m s c x y : Nat) : Bool := if rt = true then decide (x + s = y + c * m) else decide (y + s = x + c * m)
def cr (rt : Bool) (p : List (Nat × Nat)) (s c y : Nat) : Nat × Nat := xs (2 ^ p.length) fun x => if rel rt (2 ^ p.length) (s % 2 ^ p.length) c x y = true then wt p x else (0, 0)
theorem lt_cr (rt : Bool) (p : List (Nat × Nat)) (s c y : Nat) : lt2 (cr rt p s c y) := lt_xs (fun i => by split; exact lt_wt _ _; exact lt_zero) _
/-- One half of the sum with one bit more. -/
theorem cr_half (rt : Bool) (p : List (Nat × Nat)) (e : Nat × Nat) (s d c b z y sg : Nat) (hs : s / 2 ^ p.length % 2 = sg) (hc : (if rt = true then z + sg + c = b + 2 * d else b + sg + c = z + 2 * d)) :
    xs (2 ^ p.length) (fun x => if rel rt (2 ^ (p.length + 1)) (s % 2 ^ (p.length + 1)) d (2 ^ p.length * z + x) (y + 2 ^ p.length * b) = true then wt (p ++ [e]) (2 ^ p.length * z + x) else (0, 0)) = pm (cr rt p s c y) (fac e z) := by
  unfold cr
  rw [xs_pm]
  refine xs_congr _ fun x hx => ?_
  rw [Nat.add_comm (2 ^ p.length * z) x, wt_more p e hx]
  have hm : s % 2 ^ (p.length + 1) = s % 2 ^ p.length + 2 ^ p.length * sg := by rw [Nat.pow_succ, Nat.mod_mul, hs]
  have hlt : s % 2 ^ p.length < 2 ^ p.length := Nat.mod_lt _ (Nat.two_pow_pos _)
  rw [hm]
  have hrel : rel rt (2 ^ (p.length + 1)) (s % 2 ^ p.length + 2 ^ p.length * sg) d (x + 2 ^ p.length * z) (y + 2 ^ p.length * b) = rel rt (2 ^ p.length) (s % 2 ^ p.length) c x y := by
    rw [Nat.pow_succ]
    unfold rel
    generalize s % 2 ^ p.length = r at *
    generalize 2 ^ p.length = m at *
    cases rt
    · rw [if_neg (by decide)] at hc
      rw [if_neg (by decide), if_neg (by decide), decide_eq_decide]
      have h1 : m * (b + sg + c) = m * (z + 2 * d) := by rw [hc]
      have h2 : d * (m * 2) = m * (2 * d) := by rw [Nat.mul_comm d, Nat.mul_assoc]
      have h3 : c * m = m * c := Nat.mul_comm _ _
      rw [h2, h3]
      simp only [Nat.mul_add] at h1
      omega
    · rw [if_pos rfl] at hc
      rw [if_pos rfl, if_pos rfl, decide_eq_decide]
      have h1 : m * (z + sg + c) = m * (b + 2 * d) := by rw [hc]
      have h2 : d * (m * 2) = m * (2 * d) := by rw [Nat.mul_comm d, Nat.mul_assoc]
      have h3 : c * m = m * c := Nat.mul_comm _ _
      rw [h2, h3]
      simp only [Nat.mul_add] at h1
      omega
  rw [hrel]
  split
  · rfl
  · rw [zero_pm]
/-- A half of the sum that has nothing. -/
theorem cr_void (rt : Bool) (p : List (Nat × Nat)) (e : Nat × Nat) (s d b z y sg : Nat) (hz : z < 2) (hb : b < 2) (hd : d < 2) (hs : s / 2 ^ p.length % 2 = sg) (hy : y < 2 ^ p.length) (hc : ∀ c, c < 2 → ¬ (if rt = true then z + sg + c = b + 2 * d else b + sg + c = z + 2 * d)) :
    xs (2 ^ p.length) (fun x => if rel rt (2 ^ (p.length + 1)) (s % 2 ^ (p.length + 1)) d (2 ^ p.length * z + x) (y + 2 ^ p.length * b) = true then wt (p ++ [e]) (2 ^ p.length * z + x) else (0, 0)) = (0, 0) := by
  refine xs_none _ fun x hx => ?_
  have hm : s % 2 ^ (p.length + 1) = s % 2 ^ p.length + 2 ^ p.length * sg := by rw [Nat.pow_succ, Nat.mod_mul, hs]
  have hlt : s % 2 ^ p.length < 2 ^ p.length := Nat.mod_lt _ (Nat.two_pow_pos _)
  have hsg : sg < 2 := by rw [← hs]; exact Nat.mod_lt _ (by decide)
  rw [if_neg]
  rw [hm, Nat.pow_succ]
  unfold rel
  generalize s % 2 ^ p.length = r at *
  generalize 2 ^ p.length = m at *
  have h0 := hc 0 (by decide)
  have h1 := hc 1 (by decide)
  clear hc hm hs
  obtain rfl | rfl : z = 0 ∨ z = 1 := by omega
  all_goals
    obtain rfl | rfl : b = 0 ∨ b = 1 := by omega
    all_goals
      obtain rfl | rfl : d = 0 ∨ d = 1 := by omega
      all_goals
        obtain rfl | rfl : sg = 0 ∨ sg = 1 := by omega
        all_goals
          cases rt
          all_goals (simp at h0 h1 ⊢; try omega)
/-- The carries with one bit more: from the carries so far. -/
def st2 (rt : Bool) (sg b d : Nat) (c : Nat → Nat × Nat) (t : Nat → Nat × Nat) : Nat × Nat :=
  match rt, sg, b, d with
  | false, 0, 0, 0 => xa (pm (c 0) (t 0)) (pm (c 1) (t 1))
  | false, 0, 0, _ => (0, 0)
  | false, 0, _, 0 => pm (c 0) (t 1)
  | false, 0, _, _ => pm (c 1) (t 0)
  | false, _, 0, 0 => pm (c 0) (t 1)
  | false, _, 0, _ => pm (c 1) (t 0)
  | false, _, _, 0 => (0, 0)
  | false, _, _, _ => xa (pm (c 0) (t 0)) (pm (c 1) (t 1))
  | true, 0, 0, 0 => pm (c 0) (t 0)
  | true, 0, 0, _ => pm (c 1) (t 1)
  | true, 0, _, 0 => xa (pm (c 1) (t 0)) (pm (c 0) (t 1))
  | true, 0, _, _ => (0, 0)
  | true, _, 0, 0 => (0, 0)
  | true, _, 0, _ => xa (pm (c 1) (t 0)) (pm (c 0) (t 1))
  | true, _, _, 0 => pm (c 0) (t 0)
  | true, _, _, _ => pm (c 1) (t 1)
theorem cr_step (rt : Bool) (p : List (Nat × Nat)) (e : Nat × Nat) (s d b y sg : Nat) (hd : d < 2) (hb : b < 2) (hs : s / 2 ^ p.length % 2 = sg) (hy : y < 2 ^ p.length) :
    cr rt (p ++ [e]) s d (y + 2 ^ p.length * b) = st2 rt sg b d (fun c => cr rt p s c y) (fac e) := by
  have hsg : sg < 2 := by rw [← hs]; exact Nat.mod_lt _ (by decide)
  have e1 : cr rt (p ++ [e]) s d (y + 2 ^ p.length * b) = xa (xs (2 ^ p.length) (fun x => if rel rt (2 ^ (p.length + 1)) (s % 2 ^ (p.length + 1)) d (2 ^ p.length * 0 + x) (y + 2 ^ p.length * b) = true then wt (p ++ [e]) (2 ^ p.length * 0 + x) else (0, 0))) (xs (2 ^ p.length) (fun x => if rel rt (2 ^ (p.length + 1)) (s % 2 ^ (p.length + 1)) d (2 ^ p.length * 1 + x) (y + 2 ^ p.length * b) = true then wt (p ++ [e]) (2 ^ p.length * 1 + x) else (0, 0))) := by
    unfold cr
    rw [show (p ++ [e]).length = p.length + 1 by simp]
    rw [show xs (2 ^ (p.length + 1)) (fun x => if rel rt (2 ^ (p.length + 1)) (s % 2 ^ (p.length + 1)) d x (y + 2 ^ p.length * b) = true then wt (p ++ [e]) x else (0, 0)) = xs (2 ^ p.length + 2 ^ p.length) (fun x => if rel rt (2 ^ (p.length + 1)) (s % 2 ^ (p.length + 1)) d x (y + 2 ^ p.length * b) = true then wt (p ++ [e]) x else (0, 0)) by rw [← Nat.two_mul, ← Nat.pow_succ'], xs_add]
    simp only [Nat.mul_zero, Nat.zero_add, Nat.mul_one]
  rw [e1]
  have half := fun z c (_ : z < 2) hc => cr_half rt p e s d c b z y sg hs hc
  have void := fun z hz hc => cr_void rt p e s d b z y sg hz hb hd hs hy hc
  clear e1 hs
  obtain rfl | rfl : b = 0 ∨ b = 1 := by omega
  all_goals
    obtain rfl | rfl : d = 0 ∨ d = 1 := by omega
    all_goals
      obtain rfl | rfl : sg = 0 ∨ sg = 1 := by omega
      all_goals
        cases rt
        all_goals
          first
            | rw [half 0 0 (by decide) (by decide), half 1 1 (by decide) (by decide)]; rfl
            | rw [half 0 1 (by decide) (by decide), half 1 0 (by decide) (by decide)]; rfl
            | rw [half 0 0 (by decide) (by decide), void 1 (by decide) (by decide), xa_zero]; rfl
            | rw [half 0 1 (by decide) (by decide), void 1 (by decide) (by decide), xa_zero]; rfl
            | rw [void 0 (by decide) (by decide), half 1 0 (by decide) (by decide), zero_xa]; rfl
            | rw [void 0 (by decide) (by decide), half 1 1 (by decide) (by decide), zero_xa]; rfl
            | rw [void 0 (by decide) (by decide), void 1 (by decide) (by decide), zero_xa]; rfl
theorem cr_start (rt : Bool) (s : Nat) : cr rt [] s 0 0 = (0, 1) ∧ cr rt [] s 1 0 = (0, 0) := by
  cases rt <;> (simp [cr, rel, xs, wt, wtf, xa, Nat.mod_one])
end Go.Proofs.Ytejoombhcnldmaa

/- Contracts of turn.start, sides, next and sign over the seat's translation. -/
namespace Go.Proofs.Ytejoombhcnldmaa
open Go.RowKit
open Cb
open Tw (pm)

/-- Two elements by value. -/
def ag2 (c : Nat → Nat × Nat) : Value := .agg #[.int .u64 ((c 0).1 : Int), .int .u64 ((c 0).2 : Int), .int .u64 ((c 1).1 : Int), .int .u64 ((c 1).2 : Int)]
/-- Two elements in a box. -/
structure E2 (w : World) (q : Nat) (c : Nat → Nat × Nat) : Prop where
  a1 : w.cell? ⟨q, 0, none⟩ = some (.int .u64 ((c 0).1 : Int))
  a0 : w.cell? ⟨q, 1, none⟩ = some (.int .u64 ((c 0).2 : Int))
  b1 : w.cell? ⟨q, 2, none⟩ = some (.int .u64 ((c 1).1 : Int))
  b0 : w.cell? ⟨q, 3, none⟩ = some (.int .u64 ((c 1).2 : Int))
theorem E2.below {w w' : World} {q : Nat} {c : Nat → Nat × Nat} (h : E2 w q c) (hb : Below w.heap.size w w') : E2 w' q c := ⟨keepc hb h.a1, keepc hb h.a0, keepc hb h.b1, keepc hb h.b0⟩
theorem E2.at {w : World} {q : Nat} {c : Nat → Nat × Nat} (h : E2 w q c) {i : Nat} (hi : i < 2) : w.cell? ⟨q, i * 2, none⟩ = some (.int .u64 ((c i).1 : Int)) ∧ w.cell? ⟨q, i * 2 + 1, none⟩ = some (.int .u64 ((c i).2 : Int)) := by
  obtain rfl | rfl : i = 0 ∨ i = 1 := by omega
  · exact ⟨h.a1, h.a0⟩
  · exact ⟨h.b1, h.b0⟩
theorem E2.new (w : World) (c : Nat → Nat × Nat) (T : TypeId) : E2 (w.alloc (Obj.cells #[.int .u64 ((c 0).1 : Int), .int .u64 ((c 0).2 : Int), .int .u64 ((c 1).1 : Int), .int .u64 ((c 1).2 : Int)] T)) w.heap.size c := ⟨by simp [go_sem], by simp [go_sem], by simp [go_sem], by simp [go_sem]⟩
structure F2 (w : World) (q : Nat) : Prop where
  a1 : w.frozen? ⟨q, 0, none⟩ = false
  a0 : w.frozen? ⟨q, 1, none⟩ = false
  b1 : w.frozen? ⟨q, 2, none⟩ = false
  b0 : w.frozen? ⟨q, 3, none⟩ = false
theorem F2.below {w w' : World} {q : Nat} {c : Nat → Nat × Nat} (h : F2 w q) (e : E2 w q c) (hb : Below w.heap.size w w') : F2 w' q := ⟨keepf hb e.a1 h.a1, keepf hb e.a0 h.a0, keepf hb e.b1 h.b1, keepf hb e.b0 h.b0⟩
theorem F2.new (w : World) (c : Nat → Nat × Nat) (T : TypeId) : F2 (w.alloc (Obj.cells #[.int .u64 ((c 0).1 : Int), .int .u64 ((c 0).2 : Int), .int .u64 ((c 1).1 : Int), .int .u64 ((c 1).2 : Int)] T)) w.heap.size := ⟨by simp [go_sem], by simp [go_sem], by simp [go_sem], by simp [go_sem]⟩
theorem tstart : Ret 64 #[] (.agg #[.int .u64 0, .int .u64 1, .int .u64 0, .int .u64 0]) := by
  intro W
  have H1 := Hid.mkT one_any
  go_enter Try.func64, Try.ntmps64
  go_wp2_with (go_at_call 59; refine (H1.out _).mono ?_; rintro e w1 ⟨rfl, hb1⟩; have e0 : E2 w1 W.heap.size (fun _ => (0, 0)) := E2.below ⟨by simp [go_sem], by simp [go_sem], by simp [go_sem], by simp [go_sem]⟩ hb1; have f0 : F2 w1 W.heap.size := F2.below (c := fun _ => (0, 0)) ⟨by simp [go_sem], by simp [go_sem], by simp [go_sem], by simp [go_sem]⟩ ⟨by simp [go_sem], by simp [go_sem], by simp [go_sem], by simp [go_sem]⟩ hb1; obtain ⟨z1, z2, z3, z4⟩ := e0; obtain ⟨y1, y2, y3, y4⟩ := f0; have D : Hid (Below W.heap.size W w1) := ((Below.refl _ _).alloc (Nat.le_refl _) _).trans (hb1.mono (by simp)); clear hb1)
  refine bodyPost_ret (v := .agg #[.int .u64 0, .int .u64 1, .int .u64 0, .int .u64 0]) (by simp [results, Try.results64, go_sem, *]) rfl ⟨rfl, ?_⟩
  exact (((D.out.setCell (by simp) _).setCell (by simp) _).setCell (by simp) _).setCell (by simp) _
/-- The weights of 0 and 1 at an element. -/
def sd (x : Nat × Nat) : Nat → Nat × Nat := fun i => fac x i
structure Sx (W w : World) (x : Nat × Nat) : Prop where
  x : El w W.heap.size x.1 x.2
  r : E2 w (W.heap.size + 1) (fun _ => (0, 0))
  f : F2 w (W.heap.size + 1)
  d : Below W.heap.size W w
theorem Sx.below {W w w' : World} {x : Nat × Nat} (h : Sx W w x) (hb : Below w.heap.size w w') : Sx W w' x := ⟨h.x.below hb, h.r.below hb, h.f.below h.r hb, h.d.trans (hb.mono h.d.size)⟩
theorem Sx.drew {W w : World} {x : Nat × Nat} (h : Sx W w x) : Sx W w.drew x := h.below (Below.refl _ _).drew
set_option maxHeartbeats 2000000 in
set_option maxRecDepth 100000 in
theorem tsides (x : Nat × Nat) (hx : lt2 x) : Ret 65 #[.agg #[.int .u64 (x.1 : Int), .int .u64 (x.2 : Int)]] (ag2 (sd x)) := by
  intro W
  have H1 := Hid.mkT one_any
  have H2 : Hid (Ret 36 #[.agg #[.int .u64 0, .int .u64 1], .agg #[.int .u64 (x.1 : Int), .int .u64 (x.2 : Int)]] (.agg #[.int .u64 ((fac x 0).1 : Int), .int .u64 ((fac x 0).2 : Int)])) := fun w => add_any 0 1 _ _ (by decide) (by decide) hx.1 hx.2 w
  have e1 : fac x 1 = x := by unfold fac; rw [if_pos rfl]
  unfold ag2 sd
  rw [e1]
  generalize fac x 0 = z at *
  have K : Hid (Sx W ((W.alloc (Obj.cells #[.int .u64 (x.1 : Int), .int .u64 (x.2 : Int)] 26)).alloc (Obj.cells #[.int .u64 0, .int .u64 0, .int .u64 0, .int .u64 0] 99)) x) := ⟨⟨by simp [go_sem], by simp [go_sem]⟩, ⟨by simp [go_sem], by simp [go_sem], by simp [go_sem], by simp [go_sem]⟩, ⟨by simp [go_sem], by simp [go_sem], by simp [go_sem], by simp [go_sem]⟩, by go_grown⟩
  clear e1 hx
  go_enter Try.func65, Try.ntmps65
  go_wp2_with fail
  generalize ((W.alloc (Obj.cells #[.int .u64 (x.1 : Int), .int .u64 (x.2 : Int)] 26)).alloc (Obj.cells #[.int .u64 0, .int .u64 0, .int .u64 0, .int .u64 0] 99)) = w3 at *
  obtain ⟨x1, x0⟩ := K.out.x
  obtain ⟨r1, r2, r3, r4⟩ := K.out.r
  obtain ⟨g1, g2, g3, g4⟩ := K.out.f
  go_region_held3 (fun w => w.cell? ⟨W.heap.size, 0, none⟩ = some (.int .u64 (x.1 : Int)) ∧ w.cell? ⟨W.heap.size, 1, none⟩ = some (.int .u64 (x.2 : Int))) (first | (go_keep; done) | (refine ⟨?_, ?_⟩ <;> simp [go_sem, *])) (first | (go_at_call 59; refine (H1.out _).mono ?_; rintro e w' ⟨rfl, hb'⟩; have K' : Hid (Sx W w' x) := Sx.below (w' := w') (by first | exact K.out | exact K.out.drew) hb'; clear x1 x0 r1 r2 r3 r4 g1 g2 g3 g4 K hb'; have K := K'; clear K'; obtain ⟨x1, x0⟩ := K.out.x; obtain ⟨r1, r2, r3, r4⟩ := K.out.r; obtain ⟨g1, g2, g3, g4⟩ := K.out.f) | (go_at_call 36; refine (H2.out.go _).mono ?_; rintro e w' ⟨rfl, hb'⟩; have K' : Hid (Sx W w' x) := Sx.below (w' := w') (by first | exact K.out | exact K.out.drew) hb'; clear x1 x0 r1 r2 r3 r4 g1 g2 g3 g4 K hb'; have K := K'; clear K'; obtain ⟨x1, x0⟩ := K.out.x; obtain ⟨r1, r2, r3, r4⟩ := K.out.r; obtain ⟨g1, g2, g3, g4⟩ := K.out.f))
  go_wp2
  refine bodyPost_ret (v := .agg #[.int .u64 (z.1 : Int), .int .u64 (z.2 : Int), .int .u64 (x.1 : Int), .int .u64 (x.2 : Int)]) (by simp [results, Try.results65, go_sem, *]) rfl ⟨rfl, ?_⟩
  exact (((K.out.d.setCell (by simp) _).setCell (by simp) _).setCell (by simp) _).setCell (by simp) _
set_option maxHeartbeats 2000000 in
theorem tsign (k : Int) (c : Nat → Nat × Nat) (h0 : lt2 (c 0)) (h1 : lt2 (c 1)) : Ret 67 #[ag2 c, .int .i64 k] (.agg #[.int .u64 ((if k = 3 then xa (c 0) (c 1) else c 0).1 : Int), .int .u64 ((if k = 3 then xa (c 0) (c 1) else c 0).2 : Int)]) := by
  intro W
  have H2 : Hid (Ret 36 #[.agg #[.int .u64 ((c 0).1 : Int), .int .u64 ((c 0).2 : Int)], .agg #[.int .u64 ((c 1).1 : Int), .int .u64 ((c 1).2 : Int)]] (.agg #[.int .u64 ((xa (c 0) (c 1)).1 : Int), .int .u64 ((xa (c 0) (c 1)).2 : Int)])) := fun w => add_any _ _ _ _ h0.1 h0.2 h1.1 h1.2 w
  unfold ag2
  clear h0 h1
  by_cases hk : k = 3
  · rw [if_pos hk]
    subst hk
    generalize xa (c 0) (c 1) = z at *
    go_enter Try.func67, Try.ntmps67
    go_wp2_with (go_at_call 36; refine (H2.out.go _).mono ?_; rintro e w1 ⟨rfl, hb1⟩; have E1 : Ew w1 (W.heap.size + 1) 0 0 := Ew.below ⟨⟨by simp [go_sem], by simp [go_sem]⟩, by simp [go_sem], by simp [go_sem]⟩ hb1; have D : Hid (Below W.heap.size W w1) := (((Below.refl _ _).alloc (Nat.le_refl _) _).alloc (by simp) _).trans (hb1.mono (by simp; omega)); obtain ⟨⟨z1, z2⟩, z3, z4⟩ := E1; clear hb1)
    refine bodyPost_ret (v := .agg #[.int .u64 (z.1 : Int), .int .u64 (z.2 : Int)]) (by simp [results, Try.results67, go_sem, *]) rfl ⟨rfl, ?_⟩
    exact (D.out.setCell (by simp) _).setCell (by simp) _
  · rw [if_neg hk]
    have hk' : (k == 3) = false := by rw [beq_eq_false_iff_ne]; exact hk
    go_enter Try.func67, Try.ntmps67
    go_wp2
    refine bodyPost_ret (v := .agg #[.int .u64 ((c 0).1 : Int), .int .u64 ((c 0).2 : Int)]) (by simp [results, Try.results67, go_sem, *]) rfl ⟨rfl, ?_⟩
    go_grown
end Go.Proofs.Ytejoombhcnldmaa
