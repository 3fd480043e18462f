/-
  Sums and products that wrap round; array.count of anything.
-/
import Derived.Test.YtcidhbkdaleomaaK24
import Derived.Test.YtcidhbkdaleomaaK14
namespace Go.Proofs.Ytcidhbkdaleomaa.V
set_option maxRecDepth 20000
open Go.RowKit

theorem w64 (n : Int) : wrap64 n = IntKind.i64.wrap n := by
  simp only [wrap64, IntKind.wrap, IntKind.bits, IntKind.signed]
  simp
  split <;> omega
theorem wrap_bd (n : Int) : -9223372036854775808 ≤ IntKind.i64.wrap n ∧ IntKind.i64.wrap n ≤ 9223372036854775807 := by
  simp only [IntKind.wrap, IntKind.bits, IntKind.signed]
  simp
  split <;> omega
theorem wrap_off (n : Int) : ∃ q : Int, IntKind.i64.wrap n = n + q * 18446744073709551616 := by
  simp only [IntKind.wrap, IntKind.bits, IntKind.signed]
  simp
  split
  · exact ⟨-(n / 18446744073709551616) - 1, by omega⟩
  · exact ⟨-(n / 18446744073709551616), by omega⟩
theorem wrap_plus (n q : Int) : IntKind.i64.wrap (n + q * 18446744073709551616) = IntKind.i64.wrap n := by
  simp only [IntKind.wrap, IntKind.bits, IntKind.signed]
  simp only [show ((2 : Int) ^ (64 : Nat)) = 18446744073709551616 from rfl, Int.add_mul_emod_self_right]
theorem wrap_addl (a b : Int) : IntKind.i64.wrap (IntKind.i64.wrap a + b) = IntKind.i64.wrap (a + b) := by
  obtain ⟨q, hq⟩ := wrap_off a
  rw [hq, show a + q * 18446744073709551616 + b = a + b + q * 18446744073709551616 by omega, wrap_plus]
theorem wrap_addr (a b : Int) : IntKind.i64.wrap (a + IntKind.i64.wrap b) = IntKind.i64.wrap (a + b) := by
  rw [Int.add_comm, wrap_addl, Int.add_comm]
theorem wrap_mull (a b : Int) : IntKind.i64.wrap (IntKind.i64.wrap a * b) = IntKind.i64.wrap (a * b) := by
  obtain ⟨q, hq⟩ := wrap_off a
  rw [hq, Int.add_mul, show q * 18446744073709551616 * b = (q * b) * 18446744073709551616 by rw [Int.mul_assoc, Int.mul_comm _ b, ← Int.mul_assoc], wrap_plus]
theorem wrap_mulr (a b : Int) : IntKind.i64.wrap (a * IntKind.i64.wrap b) = IntKind.i64.wrap (a * b) := by
  rw [Int.mul_comm, wrap_mull, Int.mul_comm]
theorem wrap_wrap (a : Int) : IntKind.i64.wrap (IntKind.i64.wrap a) = IntKind.i64.wrap a := by
  have := wrap_addl a 0
  simpa using this

set_option maxHeartbeats 1000000 in
theorem count_wrap (a : Option Addr) (len cap : Nat) (xs : List Int) (w : World) (h : Ints w a len xs) :
    Calls Try.prog 32 #[.slice a len cap] w fun e w' => e = .returned (.int .i64 (IntKind.i64.wrap (prod xs))) ∧ w' = w := by
  have HL := hide h.1
  have hm := h.2.1
  have H := hide h
  clear h
  go_enter Try.func32, Try.ntmps32
  go_wp2
  go_loop [3, 8] (fun s i => ∃ (k : Nat) (P : Int), k ≤ len ∧ i = .int .i64 k ∧ s = .int .i64 P ∧ P = IntKind.i64.wrap (prod (xs.take k))) (fun _ i => len - (intOf i).toNat)
  case atStart => exact ⟨0, 1, Nat.zero_le _, rfl, rfl, by simp [prod]; decide⟩
  case round =>
    obtain ⟨k, P, hk, rfl, rfl, hP⟩ := hrel
    have HPP := hide hP
    clear hP
    by_cases hlt : k < len
    · obtain ⟨b, off, rfl, hb, hc⟩ := H.out.at (by omega)
      have hck := hc k hlt
      have hkl : k < xs.length := by rw [HL.out]; exact hlt
      have HP1 : Hid (prod (xs.take (k + 1)) = prod (xs.take k) * xs[k]?.getD 0) := prod_take_succ xs k hkl
      clear hkl
      obtain ⟨X, hX⟩ : ∃ X, X = xs[k]?.getD 0 := ⟨_, rfl⟩
      rw [← hX] at hck HP1
      clear hX hc
      go_wp2
      go_round
      case rel => exact ⟨k + 1, _, by omega, by go_num, rfl, by rw [HP1.out, HPP.out, w64, wrap_mull]⟩
      case measure => simp [intOf]; omega
    · go_wp2
      go_ret
      rw [HPP.out, take_all HL.out hlt]
      exact ⟨rfl, rfl⟩

/-- All sizes, and something for each. -/
def tot (J : Int) : List (List Int) → Int
  | [] => 0
  | d :: r => prod d + J + tot J r
theorem tot_take_succ (J : Int) : ∀ (xss : List (List Int)) (j : Nat), j < xss.length → tot J (xss.take (j + 1)) = tot J (xss.take j) + (prod (xss[j]?.getD []) + J)
  | [], j, h => by simp at h
  | x :: r, 0, _ => by simp [tot]
  | x :: r, j + 1, h => by
    have := tot_take_succ J r j (by simpa using h)
    rw [List.take_succ_cons, List.take_succ_cons, tot, tot, this]
    simp
    omega
theorem tot_each (J : Int) : ∀ xss : List (List Int), tot J xss = tot 0 xss + J * xss.length
  | [] => by simp [tot]
  | x :: r => by
    rw [tot, tot, tot_each J r, List.length_cons, show ((r.length + 1 : Nat) : Int) = (r.length : Int) + 1 by simp, Int.mul_add, Int.mul_one]
    omega
end Go.Proofs.Ytcidhbkdaleomaa.V
