/-
  Contract: the document's SameMemory, of equal memories.
-/
import Derived.Test.YtindmfpfpooijaaNeMem
import Derived.BigQuiet
namespace Go.Proofs.Ytindmfpfpooijaa.V
open Go.RowKit
set_option linter.unusedVariables false

theorem Mems.memA {W : World} {N : Nat} {a : Option Addr} {G C : Nat → Nat} {M : Mem} {len : Nat} (h : Mems W N a G C M) (hl : M.length = len) (hm : len ≤ 9223372036854775807) : MemA W a len M := by
  subst hl
  refine ⟨rfl, hm, ?_⟩
  rcases h.head with h0 | ⟨b, off, e, h1⟩
  · exact .inl h0
  · refine .inr ⟨b, off, e, fun k hk => ⟨_, _, _, (h1 k hk).1, (h.rows k hk).ints (h.bd k) (by have := h.small k; omega), ?_, fun e => by cases e⟩⟩
    obtain ⟨cur, _, _, h3, _⟩ := h.rows k hk
    exact h3

set_option maxRecDepth 100000 in
set_option maxHeartbeats 4000000 in
theorem sameMem_any (a : Option Addr) (cap : Nat) (a' : Option Addr) (cap' : Nat) (len : Nat) (M : Mem) (w : World) (h : MemA w a len M) (h' : MemA w a' len M) :
    Calls Try.prog 6 #[.slice a len cap, .slice a' len cap'] w fun e w' => e = .returned (.bool true) ∧ ∃ n, w' = w.drewN n := by
  have hm := h.2.1
  have H := hide h
  have H' := hide h'
  have q0 : ((len : Int) != (len : Int)) = false := by simp
  clear h h'
  go_enter Try.func6, Try.ntmps6
  go_wp2_with fail
  go_loopw [14] (fun i wr => ∃ k : Nat, k ≤ len ∧ i = .int .i64 k ∧ ∃ n, wr = w.drewN n) (fun i _ => len - (intOf i).toNat)
  case atStart => exact ⟨0, Nat.zero_le _, rfl, 0, rfl⟩
  case round =>
    obtain ⟨k, hk, rfl, nn, rfl⟩ := hrel
    by_cases hlt : k < len
    · obtain ⟨b, off, rfl, hat⟩ := H.out.at (by omega)
      obtain ⟨x, l, c, c1, c2⟩ := hat k hlt
      obtain ⟨b', off', rfl, hat'⟩ := H'.out.at (by omega)
      obtain ⟨x', l', c', c1', c2'⟩ := hat' k hlt
      obtain rfl : l = l' := by have := c2.1.1; have := c2'.1.1; omega
      have z1 := lt_of_cell c1
      have z1' := lt_of_cell c1'
      simp only at z1 z1'
      have hlm := c2.1.2.1
      have q1 : ((l : Int) != (l : Int)) = false := by simp
      have HX := hide c2.1
      have HX' := hide c2'.1
      have HC1 := hide c1
      have HC1' := hide c1'
      clear hat hat' c2 c2'
      go_wp2_with fail
      go_quiet (fail)
      go_wp2_with fail
      go_loopw [33] (fun i wr => ∃ j : Nat, j ≤ l ∧ i = .int .i64 j ∧ ∃ n, wr = w.drewN n) (fun i _ => l - (intOf i).toNat)
      case atStart => exact ⟨0, Nat.zero_le _, rfl, _, rfl⟩
      case round =>
        obtain ⟨j, hj, rfl, n2, rfl⟩ := hrel
        by_cases hlt2 : j < l
        · obtain ⟨y, yo, rfl, hy, hyc⟩ := HX.out.at (by omega)
          obtain ⟨y', yo', rfl, hy', hyc'⟩ := HX'.out.at (by omega)
          have d1 := hyc j hlt2
          have d1' := hyc' j hlt2
          obtain ⟨V, hV⟩ : ∃ V, V = (arrM M k)[j]?.getD 0 := ⟨_, rfl⟩
          rw [← hV] at d1 d1'
          have q2 : (V != V) = false := by simp
          clear hyc hyc' hV
          go_wp2_with fail
          go_quiet (fail)
          go_wp2_with fail
          go_roundw
          case rel => exact ⟨j + 1, by omega, by go_num, _, rfl⟩
          case measure => simp [intOf]; omega
        · go_wp2_with fail
          go_roundw
          case rel => exact ⟨k + 1, by omega, by go_num, _, rfl⟩
          case measure => simp [intOf]; omega
    · go_wp2_with fail
      go_ret
      exact ⟨rfl, _, rfl⟩
end Go.Proofs.Ytindmfpfpooijaa.V
