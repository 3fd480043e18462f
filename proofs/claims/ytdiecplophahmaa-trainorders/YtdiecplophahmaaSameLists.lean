/-
  Contracts: adjointref2.SameList, slices.Equal.
-/
import Derived.Test.YtdiecplophahmaaSame
import Derived.BigRegion
namespace Go.Proofs.Ytdiecplophahmaa.V
open Go.RowKit

set_option maxHeartbeats 1000000 in
theorem sameList_any (a : Option Addr) (len cap : Nat) (xs : List Int) (a' : Option Addr) (len' cap' : Nat) (ys : List Int) (w : World) (h : Ints w a len xs) (h' : Ints w a' len' ys) :
    Calls Try.prog 6 #[.slice a len cap, .slice a' len' cap'] w fun e w' => e = .returned (.bool (decide (xs = ys))) ∧ ∃ n, w' = w.drewN n := by
  have hl := h.1
  have hm := h.2.1
  have hl' := h'.1
  have hm' := h'.2.1
  have H := hide h
  have H' := hide h'
  clear h h'
  by_cases c : len = len'
  · subst c
    have HL := hide hl
    have HL' := hide hl'
    clear hl hl'
    go_enter Try.func6, Try.ntmps6
    go_wp2
    go_loopw [13] (fun i wr => ∃ k : Nat, k ≤ len ∧ i = .int .i64 k ∧ xs.take k = ys.take k ∧ ∃ n, wr = w.drewN n) (fun i _ => len - (intOf i).toNat)
    case atStart => exact ⟨0, Nat.zero_le _, rfl, by simp, 0, rfl⟩
    case round =>
      obtain ⟨k, hk, rfl, ht, n, rfl⟩ := hrel
      have HT := hide ht
      clear ht
      by_cases hlt : k < len
      · obtain ⟨b, off, rfl, hb, hc⟩ := H.out.at (by omega)
        obtain ⟨b', off', rfl, hb', hc'⟩ := H'.out.at (by omega)
        have hck := hc k hlt
        have hck' := hc' k hlt
        clear hc hc'
        by_cases q : xs[k]?.getD 0 = ys[k]?.getD 0
        · have Q := hide q
          have q1 : (xs[k]?.getD 0 != ys[k]?.getD 0) = false := by simp [q]
          clear q
          go_wp2
          go_quiet (fail)
          go_wp2
          go_roundw
          case rel => exact ⟨k + 1, by omega, by go_num, take_eq_succ (by rw [HL.out]; exact hlt) (by rw [HL'.out]; exact hlt) HT.out Q.out, _, rfl⟩
          case measure => simp [intOf]; omega
        · have Q := hide q
          have q1 : (xs[k]?.getD 0 != ys[k]?.getD 0) = true := by simp [q]
          clear q
          go_wp2
          go_quiet (fail)
          go_wp2
          go_ret
          have d : decide (xs = ys) = false := by simp [ne_of_getD Q.out]
          rw [d]
          exact ⟨rfl, _, World.drewN_drewN _ _ _⟩
      · go_wp2
        go_ret
        have t := HT.out
        rw [take_all HL.out hlt, take_all HL'.out hlt] at t
        have d : decide (xs = ys) = true := by simp [t]
        rw [d]
        exact ⟨rfl, n, rfl⟩
  · have hne : xs ≠ ys := fun e => c (by rw [← hl, ← hl', e])
    have d : decide (xs = ys) = false := by simp [hne]
    rw [d]
    have c1 : ((len : Int) != (len' : Int)) = true := by simp; omega
    clear hl hl' hne d c
    go_enter Try.func6, Try.ntmps6
    go_wp2
    go_ret
    exact ⟨rfl, 0, rfl⟩


end Go.Proofs.Ytdiecplophahmaa.V
