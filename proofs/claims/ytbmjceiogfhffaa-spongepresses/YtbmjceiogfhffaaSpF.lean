/- The contracts of strings.Repeat (the library's own, laid at the seat's translation), and of sponge's filledBlocks, Blocks, highFirst, filling, Fill and first. -/
import Derived.Shelf.Strings.Repeat
import Derived.Test.YtbmjceiogfhffaaProg
import Derived.Test.YtbmjceiogfhffaaSpA
namespace Go.Proofs.Ytbmjceiogfhffaa
open Go.Shelf Go.RowKit
def lays105_ren : Go.Shelf.Ren := ⟨fun | 105 => 72 | 212 => 86 | 99 => 87 | 165 => 88 | 166 => 89 | 170 => 90 | 169 => 91 | 263 => 100 | 264 => 101 | 206 => 102 | 240 => 103 | 241 => 104 | 276 => 111 | 277 => 112 | n => n, fun | 9 => 9 | 3 => 3 | 4 => 4 | 20 => 20 | 0 => 0 | 46 => 81 | 109 => 110 | 5 => 5 | 72 => 114 | 76 => 118 | 51 => 132 | 146 => 133 | 53 => 49 | 148 => 135 | 70 => 112 | 37 => 68 | 75 => 117 | 127 => 137 | 164 => 139 | 80 => 91 | n => n, fun | n => n⟩
theorem lays105 : Go.Proofs.Lays.n105 Try.prog lays105_ren := {
  mixed := by kernel_rfl
  f99 := Try.func87.trans (congrArg some (by kernel_rfl))
  f105 := Try.func72.trans (congrArg some (by kernel_rfl))
  f165 := Try.func88.trans (congrArg some (by kernel_rfl))
  f166 := Try.func89.trans (congrArg some (by kernel_rfl))
  f169 := Try.func91.trans (congrArg some (by kernel_rfl))
  f170 := Try.func90.trans (congrArg some (by kernel_rfl))
  f206 := Try.func102.trans (congrArg some (by kernel_rfl))
  f212 := Try.func86.trans (congrArg some (by kernel_rfl))
  f240 := Try.func103.trans (congrArg some (by kernel_rfl))
  f241 := Try.func104.trans (congrArg some (by kernel_rfl))
  f263 := Try.func100.trans (congrArg some (by kernel_rfl))
  f264 := Try.func101.trans (congrArg some (by kernel_rfl))
  f276 := Try.func111.trans (congrArg some (by kernel_rfl))
  f277 := Try.func112.trans (congrArg some (by kernel_rfl))
  t0 := Try.underlying0
  a0 := Try.isAgg0
  z0 := Try.sizeOf0
  v0 := Try.zeroValue0
  t3 := Try.underlying3
  a3 := Try.isAgg3
  z3 := Try.sizeOf3
  v3 := Try.zeroValue3
  t4 := Try.underlying4
  a4 := Try.isAgg4
  z4 := Try.sizeOf4
  v4 := Try.zeroValue4
  t5 := Try.underlying5
  a5 := Try.isAgg5
  z5 := Try.sizeOf5
  v5 := Try.zeroValue5
  t9 := Try.underlying9
  a9 := Try.isAgg9
  z9 := Try.sizeOf9
  v9 := Try.zeroValue9
  t20 := Try.underlying20
  a20 := Try.isAgg20
  z20 := Try.sizeOf20
  v20 := Try.zeroValue20
  t37 := Try.underlying68
  a37 := Try.isAgg68
  z37 := Try.sizeOf68
  v37 := Try.zeroValue68
  t46 := Try.underlying81
  a46 := Try.isAgg81
  z46 := Try.sizeOf81
  v46 := Try.zeroValue81
  t51 := Try.underlying132
  a51 := Try.isAgg132
  z51 := Try.sizeOf132
  v51 := Try.zeroValue132
  t53 := Try.underlying49
  a53 := Try.isAgg49
  z53 := Try.sizeOf49
  v53 := Try.zeroValue49
  t70 := Try.underlying112
  a70 := Try.isAgg112
  z70 := Try.sizeOf112
  v70 := Try.zeroValue112
  t72 := Try.underlying114
  a72 := Try.isAgg114
  z72 := Try.sizeOf114
  v72 := Try.zeroValue114
  t75 := Try.underlying117
  a75 := Try.isAgg117
  z75 := Try.sizeOf117
  v75 := Try.zeroValue117
  t76 := Try.underlying118
  a76 := Try.isAgg118
  z76 := Try.sizeOf118
  v76 := Try.zeroValue118
  t109 := Try.underlying110
  a109 := Try.isAgg110
  z109 := Try.sizeOf110
  v109 := Try.zeroValue110
  t127 := Try.underlying137
  a127 := Try.isAgg137
  z127 := Try.sizeOf137
  v127 := Try.zeroValue137
  t146 := Try.underlying133
  a146 := Try.isAgg133
  z146 := Try.sizeOf133
  v146 := Try.zeroValue133
  t148 := Try.underlying135
  a148 := Try.isAgg135
  z148 := Try.sizeOf135
  v148 := Try.zeroValue135
  t164 := Try.underlying139
  a164 := Try.isAgg139
  z164 := Try.sizeOf139
  v164 := Try.zeroValue139 }
theorem builder105 : Builder.Extra Try.prog lays105_ren := {
  sizeBuilder := by kernel_rfl
  liesBuilder := by kernel_rfl
  t5 := Try.underlying5
  a5 := Try.isAgg5
  z5 := Try.sizeOf5
  v5 := Try.zeroValue5
  infoByte := by kernel_rfl
  cellsByte := by kernel_rfl
  sizeByte := by kernel_rfl
  neB5 := by decide }
open Go.RowKit Go.Lib in
theorem repeat_any (s : ByteArray) (c : Nat) (w : World) (hc : c ≤ 9223372036854775807) (hlen : s.size * c ≤ 140737488355328) :
    Calls Try.prog 72 #[.string s, .int .i64 (c : Int)] w fun e w' => e = .returned (.string ⟨(Lib.repeatL s.data.toList c).toArray⟩) ∧ Below w.heap.size w w' := Any.strings_Repeat lays105 builder105 s c w hc hlen


/-- How many blocks a text of n bytes has, filled up. -/
def nb (n : Nat) : Nat := (n + 8) / 64 + 1
theorem fblocks (n : Nat) (hn : n ≤ 1000000000000) : Same 61 #[.int .i64 (n : Int)] (.int .i64 ((nb n : Nat) : Int)) := by
  intro W
  have h1 : ((n : Int) + 1 + 8 - 1).tdiv 64 + 1 = ((nb n : Nat) : Int) := by unfold nb; rw [Int.tdiv_eq_ediv_of_nonneg (by omega)]; omega
  have h2 : ((n : Int) + 1 + 8 - 1) / 64 + 1 = ((nb n : Nat) : Int) := by unfold nb; omega
  generalize nb n = q at *
  go_enter Try.func61, Try.ntmps61
  go_wp2
  go_ret
  exact ⟨rfl, rfl⟩
theorem blocks_ok (n : Nat) (hn : n ≤ 1048576) : Same 40 #[.int .i64 (n : Int)] (.int .i64 ((nb n : Nat) : Int)) := by
  intro W
  have H : Hid (Same 61 #[.int .i64 (n : Int)] (.int .i64 ((nb n : Nat) : Int))) := fblocks n (by omega)
  generalize nb n = q at *
  have h1 : ¬ ((n : Int) < 0) := by omega
  have h2 : ¬ ((1048576 : Int) < (n : Int)) := by omega
  go_enter Try.func40, Try.ntmps40
  go_wp2_with (go_at_call 61; refine (H.out.go _).mono ?_; rintro e w1 ⟨rfl, rfl⟩)
  go_ret
  exact ⟨rfl, rfl⟩
theorem blocks_no (n : Int) (hn : n < 0 ∨ 1048576 < n) : Same 40 #[.int .i64 n] (.int .i64 0) := by
  intro W
  by_cases h : n < 0
  · clear hn
    go_enter Try.func40, Try.ntmps40
    go_wp2
    go_ret
    exact ⟨rfl, rfl⟩
  · have h2 : 1048576 < n := by omega
    clear hn
    go_enter Try.func40, Try.ntmps40
    go_wp2
    go_ret
    exact ⟨rfl, rfl⟩
/-- A number as eight bytes, the highest first. -/
def hf8 (n : Nat) : ByteArray := ⟨((List.range 8).map fun j => UInt8.ofNat (n / 2 ^ (8 * (7 - j)))).toArray⟩
theorem hf8_size (n : Nat) : (hf8 n).size = 8 := by
  show ((List.range 8).map fun j => UInt8.ofNat (n / 2 ^ (8 * (7 - j)))).toArray.size = 8
  simp
set_option maxHeartbeats 6400000 in
set_option maxRecDepth 100000 in
theorem high_any11 (n : Nat) (hn : n < 9223372036854775808) : Ret 73 #[.int .i64 (n : Int)] (.string (hf8 n)) := by
  intro W
  have R0 : Hid (World.rowIs (W.alloc (Obj.cells #[.int .u8 0, .int .u8 0, .int .u8 0, .int .u8 0, .int .u8 0, .int .u8 0, .int .u8 0, .int .u8 0] 121)) W.heap.size 121 8 (fun _ => .int .u8 0)) := World.rowIs_alloc W #[.int .u8 0, .int .u8 0, .int .u8 0, .int .u8 0, .int .u8 0, .int .u8 0, .int .u8 0, .int .u8 0] 121 (fun _ => .int .u8 0) (fun i hi => by rcases lt8 (show i < 8 from hi) with rfl | rfl | rfl | rfl | rfl | rfl | rfl | rfl <;> rfl)
  have B0 : Hid (Below W.heap.size W (W.alloc (Obj.cells #[.int .u8 0, .int .u8 0, .int .u8 0, .int .u8 0, .int .u8 0, .int .u8 0, .int .u8 0, .int .u8 0] 121))) := (Below.refl _ _).alloc (Nat.le_refl _) _
  have hw : IntKind.u64.wrap (n : Int) = (n : Int) := by rw [IntKind.wrap_u64]; omega
  go_enter Try.func73, Try.ntmps73
  go_wp2
  generalize W.alloc (Obj.cells #[.int .u8 0, .int .u8 0, .int .u8 0, .int .u8 0, .int .u8 0, .int .u8 0, .int .u8 0, .int .u8 0] 121) = w0 at *
  go_loopw [5] (fun u wr => ∃ (i : Nat) (f : Nat → Value), i ≤ 8 ∧ u = .int .i64 i ∧ Hid (wr.rowIs W.heap.size 121 8 f) ∧ Hid (∀ j, 8 - i ≤ j → j < 8 → f j = .int .u8 ((n / 2 ^ (8 * (7 - j)) % 256 : Nat) : Int)) ∧ Hid (Below W.heap.size W wr)) (fun u _ => 8 - (intOf u).toNat)
  case atStart => exact ⟨0, _, by omega, rfl, R0, (fun j h1 h2 => by omega), B0⟩
  case round =>
    obtain ⟨i, f, hi, rfl, R1, HF, B1⟩ := hrel
    clear R0 B0
    by_cases hil : i < 8
    · rcases lt8 hil with rfl | rfl | rfl | rfl | rfl | rfl | rfl | rfl
      · have hv : (n : Int) % 256 = ((n / 2 ^ (8 * 0) % 256 : Nat) : Int) := by rw [show 2 ^ (8 * 0) = 1 by decide]; omega
        have c1 := R1.out.cell (i := 7) (by decide)
        have z1 := R1.out.frozen 7
        generalize hy : n / 2 ^ (8 * 0) % 256 = y at *
        have HY : Hid (n / 2 ^ (8 * 0) % 256 = y) := hy
        clear hy
        rw [show ((0 : Nat) : Int) = 0 from rfl]
        go_wp2
        refine ⟨⟨1, _, by omega, by simp, R1.out.set 7 _, (fun j h1 h2 => ?_), B1.out.setCell (Nat.le_refl _) _⟩, by simp [intOf]⟩
        show (if j = 7 then _ else _) = _
        by_cases e : j = 7
        · rw [if_pos e, e, ← HY.out]
        · rw [if_neg e]; exact HF.out j (by omega) h2
      · have hv : (n : Int) / 256 % 256 = ((n / 2 ^ (8 * 1) % 256 : Nat) : Int) := by rw [show 2 ^ (8 * 1) = 256 by decide]; omega
        have c1 := R1.out.cell (i := 6) (by decide)
        have z1 := R1.out.frozen 6
        generalize hy : n / 2 ^ (8 * 1) % 256 = y at *
        have HY : Hid (n / 2 ^ (8 * 1) % 256 = y) := hy
        clear hy
        rw [show ((1 : Nat) : Int) = 1 from rfl]
        go_wp2
        refine ⟨⟨2, _, by omega, by simp, R1.out.set 6 _, (fun j h1 h2 => ?_), B1.out.setCell (Nat.le_refl _) _⟩, by simp [intOf]⟩
        show (if j = 6 then _ else _) = _
        by_cases e : j = 6
        · rw [if_pos e, e, ← HY.out]
        · rw [if_neg e]; exact HF.out j (by omega) h2
      · have hv : (n : Int) / 65536 % 256 = ((n / 2 ^ (8 * 2) % 256 : Nat) : Int) := by rw [show 2 ^ (8 * 2) = 65536 by decide]; omega
        have c1 := R1.out.cell (i := 5) (by decide)
        have z1 := R1.out.frozen 5
        generalize hy : n / 2 ^ (8 * 2) % 256 = y at *
        have HY : Hid (n / 2 ^ (8 * 2) % 256 = y) := hy
        clear hy
        rw [show ((2 : Nat) : Int) = 2 from rfl]
        go_wp2
        refine ⟨⟨3, _, by omega, by simp, R1.out.set 5 _, (fun j h1 h2 => ?_), B1.out.setCell (Nat.le_refl _) _⟩, by simp [intOf]⟩
        show (if j = 5 then _ else _) = _
        by_cases e : j = 5
        · rw [if_pos e, e, ← HY.out]
        · rw [if_neg e]; exact HF.out j (by omega) h2
      · have hv : (n : Int) / 16777216 % 256 = ((n / 2 ^ (8 * 3) % 256 : Nat) : Int) := by rw [show 2 ^ (8 * 3) = 16777216 by decide]; omega
        have c1 := R1.out.cell (i := 4) (by decide)
        have z1 := R1.out.frozen 4
        generalize hy : n / 2 ^ (8 * 3) % 256 = y at *
        have HY : Hid (n / 2 ^ (8 * 3) % 256 = y) := hy
        clear hy
        rw [show ((3 : Nat) : Int) = 3 from rfl]
        go_wp2
        refine ⟨⟨4, _, by omega, by simp, R1.out.set 4 _, (fun j h1 h2 => ?_), B1.out.setCell (Nat.le_refl _) _⟩, by simp [intOf]⟩
        show (if j = 4 then _ else _) = _
        by_cases e : j = 4
        · rw [if_pos e, e, ← HY.out]
        · rw [if_neg e]; exact HF.out j (by omega) h2
      · have hv : (n : Int) / 4294967296 % 256 = ((n / 2 ^ (8 * 4) % 256 : Nat) : Int) := by rw [show 2 ^ (8 * 4) = 4294967296 by decide]; omega
        have c1 := R1.out.cell (i := 3) (by decide)
        have z1 := R1.out.frozen 3
        generalize hy : n / 2 ^ (8 * 4) % 256 = y at *
        have HY : Hid (n / 2 ^ (8 * 4) % 256 = y) := hy
        clear hy
        rw [show ((4 : Nat) : Int) = 4 from rfl]
        go_wp2
        refine ⟨⟨5, _, by omega, by simp, R1.out.set 3 _, (fun j h1 h2 => ?_), B1.out.setCell (Nat.le_refl _) _⟩, by simp [intOf]⟩
        show (if j = 3 then _ else _) = _
        by_cases e : j = 3
        · rw [if_pos e, e, ← HY.out]
        · rw [if_neg e]; exact HF.out j (by omega) h2
      · have hv : (n : Int) / 1099511627776 % 256 = ((n / 2 ^ (8 * 5) % 256 : Nat) : Int) := by rw [show 2 ^ (8 * 5) = 1099511627776 by decide]; omega
        have c1 := R1.out.cell (i := 2) (by decide)
        have z1 := R1.out.frozen 2
        generalize hy : n / 2 ^ (8 * 5) % 256 = y at *
        have HY : Hid (n / 2 ^ (8 * 5) % 256 = y) := hy
        clear hy
        rw [show ((5 : Nat) : Int) = 5 from rfl]
        go_wp2
        refine ⟨⟨6, _, by omega, by simp, R1.out.set 2 _, (fun j h1 h2 => ?_), B1.out.setCell (Nat.le_refl _) _⟩, by simp [intOf]⟩
        show (if j = 2 then _ else _) = _
        by_cases e : j = 2
        · rw [if_pos e, e, ← HY.out]
        · rw [if_neg e]; exact HF.out j (by omega) h2
      · have hv : (n : Int) / 281474976710656 % 256 = ((n / 2 ^ (8 * 6) % 256 : Nat) : Int) := by rw [show 2 ^ (8 * 6) = 281474976710656 by decide]; omega
        have c1 := R1.out.cell (i := 1) (by decide)
        have z1 := R1.out.frozen 1
        generalize hy : n / 2 ^ (8 * 6) % 256 = y at *
        have HY : Hid (n / 2 ^ (8 * 6) % 256 = y) := hy
        clear hy
        rw [show ((6 : Nat) : Int) = 6 from rfl]
        go_wp2
        refine ⟨⟨7, _, by omega, by simp, R1.out.set 1 _, (fun j h1 h2 => ?_), B1.out.setCell (Nat.le_refl _) _⟩, by simp [intOf]⟩
        show (if j = 1 then _ else _) = _
        by_cases e : j = 1
        · rw [if_pos e, e, ← HY.out]
        · rw [if_neg e]; exact HF.out j (by omega) h2
      · have hv : (n : Int) / 72057594037927936 = ((n / 2 ^ (8 * 7) % 256 : Nat) : Int) := by rw [show 2 ^ (8 * 7) = 72057594037927936 by decide]; omega
        have c1 := R1.out.cell (i := 0) (by decide)
        have z1 := R1.out.frozen 0
        generalize hy : n / 2 ^ (8 * 7) % 256 = y at *
        have HY : Hid (n / 2 ^ (8 * 7) % 256 = y) := hy
        clear hy
        rw [show ((7 : Nat) : Int) = 7 from rfl]
        go_wp2
        refine ⟨⟨8, _, by omega, by simp, R1.out.set 0 _, (fun j h1 h2 => ?_), B1.out.setCell (Nat.le_refl _) _⟩, by simp [intOf]⟩
        show (if j = 0 then _ else _) = _
        by_cases e : j = 0
        · rw [if_pos e, e, ← HY.out]
        · rw [if_neg e]; exact HF.out j (by omega) h2
    · have hin : ¬ ((i : Int) < 8) := by omega
      have hcv : (convert 68 9 (.slice (some ⟨W.heap.size, 0, none⟩) 8 8)).run Try.prog wr = .ok (.string (hf8 n)) wr := by
        have := run_convert_bytes_back (P := Try.prog) wr 68 9 5 ⟨W.heap.size, 0, none⟩ 8 ((List.range 8).map fun j => UInt8.ofNat (n / 2 ^ (8 * (7 - j)))) Try.underlying68 Try.underlying5 Try.underlying9 (fun j hj => by
          have hj' : j < 8 := by simpa using hj
          rw [Addr.add_mid, Nat.zero_add, R1.out.cell hj', HF.out j (by omega) hj']
          simp)
        rw [show ((List.range 8).map fun j => UInt8.ofNat (n / 2 ^ (8 * (7 - j)))).length = 8 by simp] at this
        exact this
      go_wp2
      go_ret
      exact ⟨rfl, B1.out⟩
theorem rep_len (c : Nat) : (Lib.repeatL [(0 : UInt8)] c).length = c := by
  first
    | (simp [Lib.repeatL]; done)
    | (induction c with
       | zero => rfl
       | succ c ih => simp [Lib.repeatL] at *; omega)
/-- What fills a text of n bytes up. -/
def fil (n : Nat) : ByteArray := ((ByteArray.mk #[128]) ++ ⟨(Lib.repeatL [0] (nb n * 64 - n - 9)).toArray⟩) ++ hf8 (nb n)
set_option maxHeartbeats 3200000 in
theorem filling_any (n : Nat) (hn : n ≤ 1000000000) : Ret 60 #[.int .i64 (n : Int)] (.string (fil n)) := by
  intro W
  have H1 : Hid (Same 61 #[.int .i64 (n : Int)] (.int .i64 ((nb n : Nat) : Int))) := fblocks n (by omega)
  have hz : (nb n : Int) * 64 - (n : Int) - 1 - 8 = ((nb n * 64 - n - 9 : Nat) : Int) := by unfold nb; omega
  have hb : nb n < 100000000 := by unfold nb; omega
  have hc : nb n * 64 - n - 9 ≤ 64 := by unfold nb; omega
  have H2 : Hid (∀ w, Calls Try.prog 72 #[.string (ByteArray.mk #[0]), .int .i64 ((nb n * 64 - n - 9 : Nat) : Int)] w fun e w' => e = .returned (.string ⟨(Lib.repeatL [0] (nb n * 64 - n - 9)).toArray⟩) ∧ Below w.heap.size w w') := fun w => repeat_any (ByteArray.mk #[0]) _ w (by omega) (by show 1 * _ ≤ _; omega)
  have H3 : Hid (Ret 73 #[.int .i64 ((nb n : Nat) : Int)] (.string (hf8 (nb n)))) := high_any11 _ (by omega)
  have HF : Hid (fil n = ((ByteArray.mk #[128]) ++ ⟨(Lib.repeatL [0] (nb n * 64 - n - 9)).toArray⟩) ++ hf8 (nb n)) := (rfl : fil n = _)
  have hxs : (⟨(Lib.repeatL [0] (nb n * 64 - n - 9)).toArray⟩ : ByteArray).size ≤ 64 := by show (Lib.repeatL [(0 : UInt8)] _).toArray.size ≤ 64; rw [List.size_toArray, rep_len]; exact hc
  have hys := hf8_size (nb n)
  generalize hx : (⟨(Lib.repeatL [0] (nb n * 64 - n - 9)).toArray⟩ : ByteArray) = x at *
  clear hx
  generalize nb n * 64 - n - 9 = c at *
  generalize hf8 (nb n) = y at *
  generalize nb n = q at *
  have hs1 : (ByteArray.mk #[128]).size = 1 := rfl
  have hs2 : ((ByteArray.mk #[128]) ++ x).size = 1 + x.size := ByteArray.size_append
  go_enter Try.func60, Try.ntmps60
  go_wp2_with (first | (go_at_call 61; refine (H1.out.go _).mono ?_; rintro e w1 ⟨rfl, rfl⟩) | (go_at_call 72; refine (H2.out _).mono ?_; rintro e w2 ⟨rfl, hb2⟩) | (go_at_call 73; refine (H3.out.go _).mono ?_; rintro e w3 ⟨rfl, hb3⟩; have D3 := hb2.trans (hb3.mono hb2.size); clear hb3))
  go_ret
  exact ⟨by rw [HF.out]; rfl, D3⟩
/-- A text filled up. -/
def ful (s : ByteArray) : ByteArray := s ++ fil s.size
theorem fil_size (n : Nat) : (fil n).size = nb n * 64 - n := by
  unfold fil
  rw [ByteArray.size_append, ByteArray.size_append, hf8_size]
  show 1 + (Lib.repeatL [(0 : UInt8)] _).toArray.size + 8 = _
  rw [List.size_toArray, rep_len]
  unfold nb
  omega
theorem ful_size (s : ByteArray) : (ful s).size = nb s.size * 64 := by
  unfold ful
  rw [ByteArray.size_append, fil_size]
  unfold nb
  omega
theorem fill_any (s : ByteArray) (hs : s.size ≤ 1000000000) : Ret 39 #[.string s] (.string (ful s)) := by
  intro W
  have H : Hid (Ret 60 #[.int .i64 (s.size : Int)] (.string (fil s.size))) := filling_any s.size hs
  have hf := fil_size s.size
  have hl : (fil s.size).size ≤ 200 := by rw [hf]; unfold nb; omega
  have HU : Hid (ful s = s ++ fil s.size) := (rfl : ful s = s ++ fil s.size)
  clear hf
  generalize fil s.size = x at *
  go_enter Try.func39, Try.ntmps39
  go_wp2_with (go_at_call 60; refine (H.out.go _).mono ?_; rintro e w1 ⟨rfl, hb1⟩)
  go_ret
  exact ⟨by rw [HU.out]; rfl, hb1⟩
/-- The first chain value. -/
def fst0 : ByteArray := ⟨(Lib.repeatL [0] 62).toArray⟩ ++ (ByteArray.mk #[1, 0])
theorem fst0_size : fst0.size = 64 := by
  unfold fst0
  rw [ByteArray.size_append]
  show (Lib.repeatL [(0 : UInt8)] 62).toArray.size + 2 = 64
  rw [List.size_toArray, rep_len]
theorem first_any : Ret 63 #[] (.string fst0) := by
  intro W
  have H : Hid (∀ w, Calls Try.prog 72 #[.string (ByteArray.mk #[0]), .int .i64 62] w fun e w' => e = .returned (.string ⟨(Lib.repeatL [0] 62).toArray⟩) ∧ Below w.heap.size w w') := fun w => repeat_any (ByteArray.mk #[0]) 62 w (by omega) (by show 1 * 62 ≤ _; omega)
  have hx : (⟨(Lib.repeatL [0] 62).toArray⟩ : ByteArray).size = 62 := by show (Lib.repeatL [(0 : UInt8)] 62).toArray.size = 62; rw [List.size_toArray, rep_len]
  have hy : (ByteArray.mk #[1, 0]).size = 2 := rfl
  have HU : Hid (fst0 = ⟨(Lib.repeatL [0] 62).toArray⟩ ++ (ByteArray.mk #[1, 0])) := (rfl : fst0 = _)
  generalize (⟨(Lib.repeatL [0] 62).toArray⟩ : ByteArray) = x at *
  go_enter Try.func63, Try.ntmps63
  go_wp2_with (go_at_call 72; refine (H.out _).mono ?_; rintro e w1 ⟨rfl, hb1⟩)
  go_ret
  exact ⟨by rw [HU.out]; rfl, hb1⟩
end Go.Proofs.Ytbmjceiogfhffaa
