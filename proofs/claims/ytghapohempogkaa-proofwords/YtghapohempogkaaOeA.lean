/- Contracts of (*strings.Builder).Write at a builder that has been used, and of octet.Elems, over the seat's translation. -/
import Derived.Test.YtghapohempogkaaPOctD
import Derived.Test.YtghapohempogkaaOctL
import Derived.Test.YtghapohempogkaaPOrB
import Derived.Lib.FrozenHead2
namespace Go.Proofs.Ytghapohempogkaa
open Go.RowKit

theorem hidE {p : Prop} (h : p) : Hid p := h
theorem builder_used (b : Nat) (w : World) (h0 : w.cell? ⟨b, 0, none⟩ = some (.pointer (some ⟨b, 0, none⟩))) :
    Calls Try.prog 36 #[.pointer (some ⟨b, 0, none⟩)] w fun e w' => e = .returned (.tuple #[]) ∧ w' = w := Any.Builder_copyCheck_used (ρ := lays166_ren) { lays166 with } Builder_Extra_166.toX72 b w h0
theorem info_byte : ∃ i, Try.prog.info? 5 = some i ∧ i.zero = some (.int .u8 0) ∧ i.size = 1 ∧ i.bytes = 1 := by
  have h : (Try.prog.info? 5).map (fun i => (i.zero, i.size, i.bytes)) = some (some (.int .u8 0), 1, 1) := by kernel_rfl
  obtain ⟨i, hi, he⟩ := Option.map_eq_some_iff.1 h
  simp only [Prod.mk.injEq] at he
  exact ⟨i, hi, he.1, he.2.1, he.2.2⟩
set_option maxHeartbeats 2000000 in
set_option maxRecDepth 100000 in
theorem builder_Write (B b : Nat) (bs : List Value) (g o m c : Nat) (news : List Value) (w : World) (h : Lib.BuilderAtF 58 5 B b (.pointer (some ⟨b, 0, none⟩)) bs w) (hl : news.length = m) (hnews : ∀ j u, news[j]? = some u → w.cell? ((⟨g, o, none⟩ : Addr).add j) = some u) (h1 : ∀ u ∈ news, u.oneCell' = true) (hlen : bs.length + m ≤ 1000000) (hBw : B ≤ w.heap.size) :
    Calls Try.prog 43 #[.pointer (some ⟨b, 0, none⟩), .slice (some ⟨g, o, none⟩) m c] w fun e w' => e = .returned (.tuple #[.int .i64 (m : Int), .nilIface]) ∧ Lib.BuilderAtF 58 5 B b (.pointer (some ⟨b, 0, none⟩)) (bs ++ news) w' ∧ Below B w w' := by
  obtain ⟨i0, hi, hz0, hz1, hz2⟩ := info_byte
  obtain ⟨hB, v, hbk, hown, hne⟩ := h
  have c0 : w.cell? ⟨b, 0, none⟩ = some (.pointer (some ⟨b, 0, none⟩)) := by rw [Lib.cell_of_heap hbk]; rfl
  have c1 : w.cell? ⟨b, 1, none⟩ = some v := by rw [Lib.cell_of_heap hbk]; rfl
  have HU := builder_used b w c0
  go_enter Try.func43, Try.ntmps43
  go_wp2_with (first | (go_at_call 36; refine HU.mono ?_; rintro e w1 ⟨rfl, rfl⟩) | (at_builtin; go_loud (refine wpList_append_ownF _ rfl _ _ 56 rfl B 5 i0 (.int .u8 0) 1 1 Try.underlying56 hi hz0 hz1 hz2 rfl (by decide) v _ bs rfl hown ⟨g, o, none⟩ m c news rfl (by omega) hnews h1 ?c3 ?c4 ?c5 ?_)))
  case c3 => unfold maxLen; omega
  case c4 => omega
  case c5 => omega
  intro v' w2 hown' hgrow _
  have hlt : b < w1.heap.size := cell_lt c0
  have hb2 : w2.heap[b]? = some (.cells #[.pointer (some ⟨b, 0, none⟩), v] 58 (0, 0)) := by
    rw [hgrow.block b hlt (fun e => hne e.symm)]
    exact hbk
  have d0 : w2.cell? ⟨b, 0, none⟩ = some (.pointer (some ⟨b, 0, none⟩)) := by rw [Lib.cell_of_heap hb2]; rfl
  have d1 : w2.cell? ⟨b, 1, none⟩ = some v := by rw [Lib.cell_of_heap hb2]; rfl
  have f1 : w2.frozen? ⟨b, 1, none⟩ = false := Lib.frozen_of_heap hb2 1
  obtain ⟨ao, n', cap, rfl⟩ : ∃ ao n' cap, v' = .slice ao n' cap := by
    rcases hown'.2 with ⟨hv, _⟩ | ⟨g, cap, cur, fz, hv, _⟩
    · exact ⟨_, _, _, hv⟩
    · exact ⟨_, _, _, hv⟩
  go_wp2
  go_ret2
  refine ⟨rfl, ?_, ?_⟩
  · exact Lib.BuilderAtF.put (T := 58) (e := 5) hB hb2 (bs' := bs ++ news) (by simpa [hl] using hown') (by decide)
  · exact ((Below.refl B w1).grown hgrow hBw (fun k hk => (hown.lt k hk).1)).setCell (p := ⟨b, 1, none⟩) hB _
theorem builderAt_below {T e : TypeId} {B b : Nat} {p : Value} {bs : List Value} {W w2 : World} (h : Lib.BuilderAtF T e B b p bs W) (k : Below W.heap.size W w2) : Lib.BuilderAtF T e B b p bs w2 := by
  have old : ∀ (g : Nat) (o : Obj), W.heap[g]? = some o → w2.heap[g]? = some o := by
    intro g o hg
    have hl : g < W.heap.size := by
      rcases Nat.lt_or_ge g W.heap.size with h1 | h1
      · exact h1
      · rw [Array.getElem?_eq_none h1] at hg; cases hg
    rw [k.block g hl]; exact hg
  obtain ⟨hB, v, hbk, ⟨hl, hown⟩, hne⟩ := h
  refine ⟨hB, v, old _ _ hbk, ⟨hl, ?_⟩, hne⟩
  rcases hown with hn | ⟨g, cap, cur, fz, hv, hb, hg, rest⟩
  · exact .inl hn
  · exact .inr ⟨g, cap, cur, fz, hv, hb, old _ _ hg, rest⟩
theorem cells_nums (xs : List Int) (h : ∀ x ∈ xs, 0 ≤ x ∧ x < 256) : Lib.byteCells (strOfNums xs).data.toList = xs.map (Value.int .u8) := by
  unfold Lib.byteCells strOfNums
  simp only [List.map_map]
  refine List.map_congr_left fun x hx => ?_
  obtain ⟨h0, h1⟩ := h x hx
  simp
  omega
theorem low_range (hi lo : Int) (h0 : 0 ≤ lo) (h1 : lo < 18446744073709551616) (h2 : 0 ≤ hi) (h3 : hi < 18446744073709551616) : ∀ x ∈ lowL hi lo, 0 ≤ x ∧ x < 256 := by
  intro x hx
  simp only [lowL, List.mem_cons, List.not_mem_nil, or_false] at hx
  rcases hx with rfl | rfl | rfl | rfl | rfl | rfl | rfl | rfl | rfl | rfl | rfl | rfl | rfl | rfl | rfl | rfl <;> omega
/-- The bytes of elements, one behind the other. -/
def elemsL (l : Int) (es : List (Nat × Nat)) : List UInt8 := es.flatMap fun e => (elemS l (e.1 : Int) (e.2 : Int)).data.toList
theorem elemsL_snoc (l : Int) (es : List (Nat × Nat)) (e : Nat × Nat) : elemsL l (es ++ [e]) = elemsL l es ++ (elemS l (e.1 : Int) (e.2 : Int)).data.toList := by simp [elemsL]
def allB (l : Int) (es : List (Nat × Nat)) : Bool := es.all fun e => ofB l (e.1 : Int) (e.2 : Int)
/-- What octet.Elems answers. -/
def elemsS (l : Int) (es : List (Nat × Nat)) : ByteArray := if wideI l = 0 then ⟨#[]⟩ else if allB l es = true then ⟨((numS es.length).data.toList ++ elemsL l es).toArray⟩ else ⟨#[]⟩
theorem elemS_len (l hi lo : Int) : (elemS l hi lo).data.toList.length ≤ 16 := by
  unfold elemS
  have h : (strOfNums (if ofB l hi lo = true then (lowL hi lo).take (wideI l).toNat else [])).data.toList.length = (if ofB l hi lo = true then (lowL hi lo).take (wideI l).toNat else []).length := by simp [strOfNums]
  rw [h]
  split
  · rw [List.length_take]; simp [lowL]; omega
  · simp
theorem elemsL_len (l : Int) (es : List (Nat × Nat)) : (elemsL l es).length ≤ es.length * 16 := by
  induction es with
  | nil => simp [elemsL]
  | cons e es ih =>
    have := elemS_len l (e.1 : Int) (e.2 : Int)
    have e1 : elemsL l (e :: es) = (elemS l (e.1 : Int) (e.2 : Int)).data.toList ++ elemsL l es := by simp [elemsL]
    rw [e1, List.length_append, List.length_cons]
    omega
theorem wide_nat (l : Int) : ∃ n : Nat, wideI l = (n : Int) ∧ n ≤ 16 := ⟨(wideI l).toNat, by unfold wideI; split <;> (try split) <;> (try split) <;> (try split) <;> (try split) <;> decide, by unfold wideI; split <;> (try split) <;> (try split) <;> (try split) <;> (try split) <;> decide⟩
set_option maxHeartbeats 4000000 in
set_option maxRecDepth 100000 in
theorem oelems (l : Int) (a : Option Addr) (cap L : Nat) (es : List (Nat × Nat)) (hL : es.length = L) (hes : ltE es) (hn : L ≤ 1000) (W : World) (hr : ERow W a es) :
    Calls Try.prog 28 #[.int .i64 l, .slice a L cap] W fun e w' => e = .returned (.string (elemsS l es)) ∧ Below W.heap.size W w' := by
  obtain ⟨wn, hwn, hw16⟩ := wide_nat l
  have HW := hidE (fun v => wide_any l v)
  rw [hwn] at HW
  by_cases h0 : wn = 0
  · subst h0
    have hS : elemsS l es = ⟨#[]⟩ := by unfold elemsS; rw [if_pos (by rw [hwn]; rfl)]
    rw [hS]
    clear hS hr hes
    go_enter Try.func28, Try.ntmps28
    go_wp2_with (go_at_call 39; refine (HW.out _).mono ?_; rintro e w1 ⟨rfl, rfl⟩)
    go_ret
    exact ⟨rfl, Below.refl _ _⟩
  · have HS : Hid (elemsS l es = if allB l es = true then ⟨((numS L).data.toList ++ elemsL l es).toArray⟩ else ⟨#[]⟩) := by show _ = _; unfold elemsS; rw [if_neg (by rw [hwn]; omega), hL]
    obtain ⟨p, hp⟩ : ∃ p, p = wn * L := ⟨_, rfl⟩
    have hp1 : p ≤ 16 * 1000 := by rw [hp]; exact Nat.mul_le_mul hw16 hn
    have e1 : IntKind.i64.wrap ((wn : Int) * (L : Int)) = (p : Int) := by rw [IntKind.wrap_i64, ← Int.natCast_mul, ← hp]; omega
    have e2 : IntKind.i64.wrap (4 + (p : Int)) = ((4 + p : Nat) : Int) := by rw [IntKind.wrap_i64]; omega
    have w0 : ¬ (wn : Int) = 0 := by omega
    have w16 : (wn : Int) ≤ 16 := by omega
    have w00 : (0 : Int) ≤ (wn : Int) := by omega
    have w17 : ¬ 16 < wn := by omega
    have HNM := hidE (fun v => num_any (L : Int) v)
    have hz := numS_size (L : Int)
    have HR : Hid (ERow W a es ∧ es.length = L ∧ ltE es ∧ wideI l = (wn : Int)) := ⟨hr, hL, hes, hwn⟩
    have hbk := heap_alloc_new W (Obj.cells #[.pointer none, .slice none 0 0] 58)
    have HG := hidE (builder_Grow W.heap.size W.heap.size (4 + p) (W.alloc (Obj.cells #[.pointer none, .slice none 0 0] 58)) (Nat.le_refl _) hbk (by simp) (by omega))
    clear hr hL hes hwn hp hbk
    go_enter Try.func28, Try.ntmps28
    go_wp2_with (first
      | (go_at_call 39; refine (HW.out _).mono ?_; rintro e w1 ⟨rfl, rfl⟩)
      | (go_at_call 40; refine HG.out.mono ?_; rintro e w2 ⟨rfl, G2, hb2⟩; have K2 : Hid (Lib.BuilderAtF 58 5 w1.heap.size w1.heap.size (.pointer (some ⟨w1.heap.size, 0, none⟩)) [] w2 ∧ Below w1.heap.size w1 w2) := ⟨Lib.BuilderAtF.of G2, ((Below.refl w1.heap.size w1).alloc (Nat.le_refl _) _).trans hb2⟩; clear G2 hb2 HG)
      | (go_at_call 26; refine (HNM.out _).mono ?_; rintro e w3 ⟨rfl, hb3⟩; have K3 : Hid (Lib.BuilderAtF 58 5 w1.heap.size w1.heap.size (.pointer (some ⟨w1.heap.size, 0, none⟩)) [] w3 ∧ Below w1.heap.size w1 w3) := ⟨builderAt_below K2.out.1 hb3, K2.out.2.trans (hb3.mono K2.out.2.size)⟩; clear hb3 K2)
      | (go_at_call 25; refine (builder_WriteString w1.heap.size w1.heap.size [] (numS L) _ (.inr K3.out.1) (by simp; omega) K3.out.2.size).mono ?_; rintro e w4 ⟨rfl, h4, hb4, _⟩; have K4 : Hid (Lib.BuilderAtF 58 5 w1.heap.size w1.heap.size (.pointer (some ⟨w1.heap.size, 0, none⟩)) (Lib.byteCells ((numS L).data.toList ++ elemsL l (es.take 0))) w4 ∧ Below w1.heap.size w1 w4) := ⟨by simpa [elemsL, Lib.strCells_eq] using h4, K3.out.2.trans hb4⟩; clear h4 hb4 K3))
    go_loopw [26] (fun u wr => ∃ k : Nat, k ≤ L ∧ u = .int .i64 k ∧ Hid (allB l (es.take k) = true) ∧ Hid (Lib.BuilderAtF 58 5 w1.heap.size w1.heap.size (.pointer (some ⟨w1.heap.size, 0, none⟩)) (Lib.byteCells ((numS L).data.toList ++ elemsL l (es.take k))) wr ∧ Below w1.heap.size w1 wr)) (fun u _ => L - (intOf u).toNat)
    case atStart => exact ⟨0, Nat.zero_le _, rfl, (by rfl), K4⟩
    case round =>
      obtain ⟨k, hk, rfl, HA, HK⟩ := hrel
      clear K4
      by_cases hlt : k < L
      · have k1 : (k : Int) < (L : Int) := by omega
        have k0 : (0 : Int) ≤ (k : Int) := by omega
        obtain ⟨b0, o0, rfl, hb0, d1, d0⟩ := HR.out.1.cells k (by rw [HR.out.2.1]; exact hlt)
        have D1 := keepc HK.out.2 d1
        have D0 := keepc HK.out.2 d0
        have hlt2 := HR.out.2.2.1.at k
        have HT : Hid (es.take (k + 1) = es.take k ++ [es.getD k (0, 0)]) := take_sn es k (by rw [HR.out.2.1]; exact hlt)
        have HM : Hid (es.getD k (0, 0) ∈ es) := by show _ ∈ _; rw [show es.getD k (0, 0) = es[k]'(by rw [HR.out.2.1]; exact hlt) by simp [HR.out.2.1, hlt]]; exact List.getElem_mem _
        have hlen := elemsL_len l (es.take k)
        have hlk : (es.take k).length = k := by rw [List.length_take, HR.out.2.1]; omega
        rw [hlk] at hlen
        clear d1 d0 hb0 hlk
        generalize es.getD k (0, 0) = e at *
        obtain ⟨hi', lo'⟩ := e
        obtain ⟨hlt3, hlt4⟩ := hlt2
        dsimp only at *
        obtain ⟨hi, hhi⟩ : ∃ hi : Int, hi = (hi' : Int) := ⟨_, rfl⟩
        obtain ⟨lo, hlo⟩ : ∃ lo : Int, lo = (lo' : Int) := ⟨_, rfl⟩
        have hh0 : 0 ≤ hi := by omega
        have hh1 : hi < 18446744073709551616 := by omega
        have hl0 : 0 ≤ lo := by omega
        have hl1 : lo < 18446744073709551616 := by omega
        rw [← hhi] at D1
        rw [← hlo] at D0
        have HE : Hid (∀ es : List (Nat × Nat), allB l (es ++ [(hi', lo')]) = (allB l es && ofB l hi lo) ∧ elemsL l (es ++ [(hi', lo')]) = elemsL l es ++ (elemS l hi lo).data.toList) := fun es => ⟨by rw [hhi, hlo]; simp [allB], by rw [hhi, hlo]; exact elemsL_snoc l es (hi', lo')⟩
        have HOF := hidE (fun v => of_any l hi lo hl0 hl1 v)
        have HLW := hidE (fun v => low_any hi lo hl0 hl1 hh0 hh1 v)
        have hbx : b0 < wr.heap.size := cell_lt D1
        rcases hof : ofB l hi lo with _ | _
        · rw [hof] at HOF
          have HF : Hid (allB l es = false) := by
            show _ = _
            unfold allB
            rw [List.all_eq_false]
            exact ⟨_, HM.out, by dsimp only; rw [← hhi, ← hlo, hof]; decide⟩
          clear HE HT HLW hhi hlo hof
          go_wp2_with (go_at_call 41; refine (HOF.out _).mono ?_; rintro e w5 ⟨rfl, hb5⟩)
          go_ret
          refine ⟨by rw [HS.out, HF.out]; rfl, ?_⟩
          exact (HK.out.2.alloc HK.out.2.size _).trans (hb5.mono (HK.out.2.alloc HK.out.2.size _).size)
        · rw [hof] at HOF
          have hEL : elemS l hi lo = strOfNums ((lowL hi lo).take wn) := by
            unfold elemS
            rw [if_pos hof, HR.out.2.2.2, Int.toNat_natCast]
          have HC : Hid (Lib.byteCells (elemS l hi lo).data.toList = ((lowL hi lo).take wn).map (Value.int .u8)) := by
            show _ = _
            rw [hEL, cells_nums]
            exact fun x hx => low_range hi lo hl0 hl1 hh0 hh1 x (List.mem_of_mem_take hx)
          have HA2 : Hid (allB l (es.take (k + 1)) = true) := by show _ = _; rw [HT.out, (HE.out _).1, HA.out, hof]; rfl
          have HN : Hid (elemsL l (es.take (k + 1)) = elemsL l (es.take k) ++ (elemS l hi lo).data.toList) := by show _ = _; rw [HT.out]; exact (HE.out _).2
          have hbl : (Lib.byteCells ((numS L).data.toList ++ elemsL l (es.take k))).length + wn ≤ 1000000 := by
            rw [Lib.byteCells_length, List.length_append, Array.length_toList]
            have : (numS (L : Int)).data.size ≤ 4 := hz
            omega
          clear HE HT hhi hlo hof hEL HA
          go_wp2_with (first
            | (go_at_call 41; refine (HOF.out _).mono ?_; rintro e w5 ⟨rfl, hb5⟩; have K5 : Hid ((Lib.BuilderAtF 58 5 w1.heap.size w1.heap.size (.pointer (some ⟨w1.heap.size, 0, none⟩)) (Lib.byteCells ((numS L).data.toList ++ elemsL l (es.take k))) w5 ∧ Below w1.heap.size w1 w5) ∧ w5.cell? ⟨wr.heap.size, 0, none⟩ = some (.int .u64 hi) ∧ w5.cell? ⟨wr.heap.size, 1, none⟩ = some (.int .u64 lo)) := ⟨⟨builderAt_below (builderAt_below HK.out.1 ((Below.refl _ _).alloc (Nat.le_refl _) _)) hb5, (HK.out.2.alloc HK.out.2.size _).trans (hb5.mono (HK.out.2.alloc HK.out.2.size _).size)⟩, keepc hb5 (by simp [go_sem]), keepc hb5 (by simp [go_sem])⟩; clear hb5 HK D1 D0; obtain ⟨_, x5, y5⟩ := K5.out)
            | (go_at_call 42; refine (HLW.out _).mono ?_; rintro e w6 ⟨rfl, hb6⟩; have K6 : Hid (Lib.BuilderAtF 58 5 w1.heap.size w1.heap.size (.pointer (some ⟨w1.heap.size, 0, none⟩)) (Lib.byteCells ((numS L).data.toList ++ elemsL l (es.take k))) (w6.alloc (Obj.cells #[.int .u8 (lo % 256), .int .u8 (lo / 256 % 256), .int .u8 (lo / 65536 % 256), .int .u8 (lo / 16777216 % 256), .int .u8 (lo / 4294967296 % 256), .int .u8 (lo / 1099511627776 % 256), .int .u8 (lo / 281474976710656 % 256), .int .u8 (lo / 72057594037927936), .int .u8 (hi % 256), .int .u8 (hi / 256 % 256), .int .u8 (hi / 65536 % 256), .int .u8 (hi / 16777216 % 256), .int .u8 (hi / 4294967296 % 256), .int .u8 (hi / 1099511627776 % 256), .int .u8 (hi / 281474976710656 % 256), .int .u8 (hi / 72057594037927936)] 81)) ∧ Below w1.heap.size w1 (w6.alloc (Obj.cells #[.int .u8 (lo % 256), .int .u8 (lo / 256 % 256), .int .u8 (lo / 65536 % 256), .int .u8 (lo / 16777216 % 256), .int .u8 (lo / 4294967296 % 256), .int .u8 (lo / 1099511627776 % 256), .int .u8 (lo / 281474976710656 % 256), .int .u8 (lo / 72057594037927936), .int .u8 (hi % 256), .int .u8 (hi / 256 % 256), .int .u8 (hi / 65536 % 256), .int .u8 (hi / 16777216 % 256), .int .u8 (hi / 4294967296 % 256), .int .u8 (hi / 1099511627776 % 256), .int .u8 (hi / 281474976710656 % 256), .int .u8 (hi / 72057594037927936)] 81))) := ⟨builderAt_below (builderAt_below K5.out.1.1 hb6) ((Below.refl _ _).alloc (Nat.le_refl _) _), (K5.out.1.2.trans (hb6.mono K5.out.1.2.size)).alloc (K5.out.1.2.trans (hb6.mono K5.out.1.2.size)).size _⟩; clear hb6 K5 x5 y5))
          refine (builder_Write w1.heap.size w1.heap.size _ _ _ wn _ (((lowL hi lo).take wn).map (Value.int .u8)) _ K6.out.1 (by simp [lowL]; omega) ?_ (by intro u hu; obtain ⟨x, _, rfl⟩ := List.mem_map.1 hu; rfl) hbl K6.out.2.size).mono ?_
          · intro j u hu
            rw [List.getElem?_map] at hu
            obtain ⟨x, hx, rfl⟩ := Option.map_eq_some_iff.1 hu
            have hj : j < wn := by have := (List.getElem?_eq_some_iff.1 hx).1; rw [List.length_take] at this; omega
            have e := low_cell hi lo w6 81 wn j hj hw16
            have hx2 : ((lowL hi lo).take wn).getD j 0 = x := by rw [List.getD_eq_getElem?_getD, hx]; rfl
            rw [hx2] at e
            rw [← e]
            congr 1
            unfold Addr.add
            split <;> simp_all
          rintro e w7 ⟨rfl, h7, hb7⟩
          go_wp2
          refine ⟨⟨k + 1, hlt, by simp, HA2, ⟨?_, K6.out.2.trans hb7⟩⟩, by simp [intOf]; omega⟩
          rw [HN.out, ← List.append_assoc, Lib.byteCells_append, HC.out]
          exact h7
      · obtain rfl : k = L := by omega
        have hb := HK.out.1
        have ha := HA.out
        rw [List.take_of_length_le (by rw [HR.out.2.1]; exact Nat.le_refl _)] at hb ha
        have K8 : Hid (Lib.BuilderAtF 58 5 w1.heap.size w1.heap.size (.pointer (some ⟨w1.heap.size, 0, none⟩)) (Lib.byteCells ((numS k).data.toList ++ elemsL l es)) wr ∧ Below w1.heap.size w1 wr ∧ allB l es = true) := ⟨hb, HK.out.2, ha⟩
        clear HK HA hb ha
        go_wp2_with (go_at_call 27; refine (builder_String w1.heap.size w1.heap.size _ _ (.inr K8.out.1) K8.out.2.1.size).mono ?_; rintro e w9 ⟨rfl, _, hb9, _⟩)
        go_ret
        exact ⟨by rw [HS.out, if_pos K8.out.2.2]; rfl, K8.out.2.1.trans hb9⟩
end Go.Proofs.Ytghapohempogkaa
