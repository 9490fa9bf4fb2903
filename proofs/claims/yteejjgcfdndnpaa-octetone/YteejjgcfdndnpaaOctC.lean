/- Contract of octet.lowFirst over the seat's translation: the sixteen bytes of an element. -/
import Derived.Test.YteejjgcfdndnpaaOctB
namespace Go.Proofs.Yteejjgcfdndnpaa
open Go.RowKit
/-- All bytes of an element, the lowest first, as numbers. -/
def lowL (hi lo : Int) : List Int := [lo % 256, lo / 256 % 256, lo / 65536 % 256, lo / 16777216 % 256, lo / 4294967296 % 256, lo / 1099511627776 % 256, lo / 281474976710656 % 256, lo / 72057594037927936, hi % 256, hi / 256 % 256, hi / 65536 % 256, hi / 16777216 % 256, hi / 4294967296 % 256, hi / 1099511627776 % 256, hi / 281474976710656 % 256, hi / 72057594037927936]
set_option maxHeartbeats 2000000 in
theorem low_any (hi lo : Int) (h0 : 0 ≤ lo) (h1 : lo < 18446744073709551616) (h2 : 0 ≤ hi) (h3 : hi < 18446744073709551616) (w : World) : Calls Try.prog 35 #[.agg #[.int .u64 hi, .int .u64 lo]] w fun e w' => e = .returned (.agg #[.int .u8 (lo % 256), .int .u8 (lo / 256 % 256), .int .u8 (lo / 65536 % 256), .int .u8 (lo / 16777216 % 256), .int .u8 (lo / 4294967296 % 256), .int .u8 (lo / 1099511627776 % 256), .int .u8 (lo / 281474976710656 % 256), .int .u8 (lo / 72057594037927936), .int .u8 (hi % 256), .int .u8 (hi / 256 % 256), .int .u8 (hi / 65536 % 256), .int .u8 (hi / 16777216 % 256), .int .u8 (hi / 4294967296 % 256), .int .u8 (hi / 1099511627776 % 256), .int .u8 (hi / 281474976710656 % 256), .int .u8 (hi / 72057594037927936)]) ∧ Below w.heap.size w w' := by
  go_enter Try.func35, Try.ntmps35
  go_wp2
  go_rounds 9
  refine bodyPost_ret (v := .agg #[.int .u8 (lo % 256), .int .u8 (lo / 256 % 256), .int .u8 (lo / 65536 % 256), .int .u8 (lo / 16777216 % 256), .int .u8 (lo / 4294967296 % 256), .int .u8 (lo / 1099511627776 % 256), .int .u8 (lo / 281474976710656 % 256), .int .u8 (lo / 72057594037927936), .int .u8 (hi % 256), .int .u8 (hi / 256 % 256), .int .u8 (hi / 65536 % 256), .int .u8 (hi / 16777216 % 256), .int .u8 (hi / 4294967296 % 256), .int .u8 (hi / 1099511627776 % 256), .int .u8 (hi / 281474976710656 % 256), .int .u8 (hi / 72057594037927936)]) (by simp [results, Try.results35, go_sem]) rfl ⟨rfl, ?_⟩
  go_grown
end Go.Proofs.Yteejjgcfdndnpaa
