/-
  Contract: train.seeded.
-/
import Derived.Test.YtdiecplophahmaaLsts
namespace Go.Proofs.Ytdiecplophahmaa.V
open Go.RowKit

/-- The bytes of a text, as numbers. -/
def byI (s : ByteArray) (k : Nat) : Int := if h : k < s.size then IntKind.u64.wrap ((s[k]'h).toNat : Int) else 0
/-- Its first k bytes make this number. -/
def sdN (s : ByteArray) : Nat → Int
  | 0 => 0
  | k + 1 => IntKind.u64.wrap (IntKind.u64.wrap (IntKind.u64.wrap (1099511628211 * sdN s k) + byI s k) + 1)

set_option maxHeartbeats 1000000 in
theorem seeded_any (s : ByteArray) (w : World) (hm : s.size ≤ 9223372036854775807) :
    Calls Try.prog 8 #[.string s] w fun e w' => e = .returned (.int .u64 (sdN s s.size)) ∧ w' = w := by
  go_enter Try.func8, Try.ntmps8
  go_wp2
  go_loop [3, 7] (fun v i => ∃ k : Nat, k ≤ s.size ∧ i = .int .i64 k ∧ v = .int .u64 (sdN s k)) (fun _ i => s.size - (intOf i).toNat)
  case atStart => exact ⟨0, Nat.zero_le _, rfl, rfl⟩
  case round =>
    obtain ⟨k, hk, rfl, rfl⟩ := hrel
    by_cases hlt : k < s.size
    · have i2 : (k : Int) < (s.size : Int) := by omega
      go_wp2
      refine ⟨⟨k + 1, hlt, by go_num, ?_⟩, by simp [intOf]; omega⟩
      simp [sdN, byI, hlt]
    · obtain rfl : k = s.size := by omega
      go_wp2
      go_ret
      exact ⟨rfl, rfl⟩
end Go.Proofs.Ytdiecplophahmaa.V
