/-
  Contracts: adjointlaw1.same, adjointref1.has.
-/
import Derived.Test.YtfamaaahofjglaaSize
namespace Go.Proofs.Ytfamaaahofjglaa.V
open Go.RowKit

theorem below_drewN {w : World} (B : Nat) (n : Nat) : Below B w (w.drewN n) := ⟨rfl, rfl, rfl, Nat.le_refl _, fun _ _ => rfl⟩
/-- What is below holds on. -/
theorem Below.on {w w1 w2 : World} (h : Below w.heap.size w w1) (k : Below w1.heap.size w1 w2) : Below w.heap.size w w2 := h.trans (k.mono h.size)

theorem take_eq_succ {xs ys : List Int} {k : Nat} (h1 : k < xs.length) (h2 : k < ys.length) (h : xs.take k = ys.take k) (hk : xs[k]?.getD 0 = ys[k]?.getD 0) : xs.take (k + 1) = ys.take (k + 1) := by
  rw [take_succ_getD xs k h1, take_succ_getD ys k h2, h, hk]
theorem ne_of_getD {xs ys : List Int} {k : Nat} (hk : xs[k]?.getD 0 ≠ ys[k]?.getD 0) : xs ≠ ys := fun e => hk (by rw [e])

set_option maxHeartbeats 1000000 in
theorem same_any (a : Option Addr) (len cap : Nat) (xs : List Int) (a' : Option Addr) (len' cap' : Nat) (ys : List Int) (w : World) (h : Ints w a len xs) (h' : Ints w a' len' ys) :
    Calls Try.prog 16 #[.slice a len cap, .slice a' len' cap'] w fun e w' => e = .returned (.bool (decide (xs = ys))) ∧ ∃ n, w' = w.drewN n := by
  have hl := h.1
  have hm := h.2.1
  have hl' := h'.1
  have hm' := h'.2.1
  have H := hide h
  have H' := hide h'
  clear h h'
  by_cases c : len = len'
  · subst c
    have HL := hide hl
    have HL' := hide hl'
    clear hl hl'
    go_enter Try.func16, Try.ntmps16
    go_wp2
    go_loopw [13] (fun i wr => ∃ k : Nat, k ≤ len ∧ i = .int .i64 k ∧ xs.take k = ys.take k ∧ ∃ n, wr = w.drewN n) (fun i _ => len - (intOf i).toNat)
    case atStart => exact ⟨0, Nat.zero_le _, rfl, by simp, 0, rfl⟩
    case round =>
      obtain ⟨k, hk, rfl, ht, n, rfl⟩ := hrel
      have HT := hide ht
      clear ht
      by_cases hlt : k < len
      · obtain ⟨b, off, rfl, hb, hc⟩ := H.out.at (by omega)
        obtain ⟨b', off', rfl, hb', hc'⟩ := H'.out.at (by omega)
        have hck := hc k hlt
        have hck' := hc' k hlt
        clear hc hc'
        by_cases q : xs[k]?.getD 0 = ys[k]?.getD 0
        · have Q := hide q
          have q1 : (xs[k]?.getD 0 != ys[k]?.getD 0) = false := by simp [q]
          clear q
          go_wp2
          go_quiet (fail)
          go_wp2
          go_roundw
          case rel => exact ⟨k + 1, by omega, by go_num, take_eq_succ (by rw [HL.out]; exact hlt) (by rw [HL'.out]; exact hlt) HT.out Q.out, _, rfl⟩
          case measure => simp [intOf]; omega
        · have Q := hide q
          have q1 : (xs[k]?.getD 0 != ys[k]?.getD 0) = true := by simp [q]
          clear q
          go_wp2
          go_quiet (fail)
          go_wp2
          go_ret
          have d : decide (xs = ys) = false := by simp [ne_of_getD Q.out]
          rw [d]
          exact ⟨rfl, _, World.drewN_drewN _ _ _⟩
      · go_wp2
        go_ret
        have t := HT.out
        rw [take_all HL.out hlt, take_all HL'.out hlt] at t
        have d : decide (xs = ys) = true := by simp [t]
        rw [d]
        exact ⟨rfl, n, rfl⟩
  · have hne : xs ≠ ys := fun e => c (by rw [← hl, ← hl', e])
    have d : decide (xs = ys) = false := by simp [hne]
    rw [d]
    have c1 : ((len : Int) != (len' : Int)) = true := by simp; omega
    clear hl hl' hne d c
    go_enter Try.func16, Try.ntmps16
    go_wp2
    go_ret
    exact ⟨rfl, 0, rfl⟩

set_option maxHeartbeats 400000 in
theorem has_any (a : Option Addr) (len cap : Nat) (xs : List Int) (v : Int) (w : World) (h : Ints w a len xs) :
    Calls Try.prog 40 #[.slice a len cap, .int .i64 v] w fun e w' => e = .returned (.bool (xs.any (fun x => x == v))) ∧ w' = w := by
  have hl := h.1
  have hm := h.2.1
  have HL : Hid (xs.length = len) := hl
  go_enter Try.func40, Try.ntmps40
  go_wp2
  go_loop [9] (fun i => ∃ k : Nat, k ≤ len ∧ i = .int .i64 k ∧ (xs.take k).any (fun x => x == v) = false) (fun i => len - (intOf i).toNat)
  case atStart => exact ⟨0, Nat.zero_le _, rfl, by simp⟩
  case round =>
    obtain ⟨k, hk, rfl, hn⟩ := hrel
    have HN : Hid ((xs.take k).any (fun x => x == v) = false) := hn
    clear hn hl
    by_cases hlt : k < len
    · obtain ⟨b, off, rfl, hb, hc⟩ := h.at (by omega)
      have hck := hc k hlt
      clear hc h
      go_wp2
      · have hx : (xs[k]?.getD 0 == v) = true := by assumption
        go_ret
        rw [any_of_getD (p := fun x => x == v) xs k (by rw [HL.out]; exact hlt) hx]
        exact ⟨rfl, rfl⟩
      · have hx : (xs[k]?.getD 0 == v) = false := by assumption
        go_round
        case rel => exact ⟨k + 1, by omega, by go_num, not_mem_take_succ xs k (by rw [HL.out]; exact hlt) HN.out hx⟩
        case measure => simp [intOf]; omega
    · go_wp2
      go_ret
      have := HN.out
      rw [take_all HL.out hlt] at this
      rw [this]
      exact ⟨rfl, rfl⟩
end Go.Proofs.Ytfamaaahofjglaa.V
