/-
  Contracts: slices.Index, IndexFunc, Contains, ContainsFunc as view.Size uses them; view.Size.
-/
import Derived.Test.YtdiecplophahmaaRows
import Derived.Test.YtdiecplophahmaaInts
import Derived.WalkKit
import Derived.BigQuiet
import Derived.Deep.QuietTactic
namespace Go.Proofs.Ytdiecplophahmaa.V
open Go.RowKit

theorem not_mem_take_succ {p : Int → Bool} (xs : List Int) (k : Nat) (h : k < xs.length) (hn : (xs.take k).any p = false) (hk : p (xs[k]?.getD 0) = false) : (xs.take (k + 1)).any p = false := by
  rw [take_succ_getD xs k h, List.any_append, hn]; simp [hk]
theorem any_of_getD {p : Int → Bool} (xs : List Int) (k : Nat) (h : k < xs.length) (hk : p (xs[k]?.getD 0) = true) : xs.any p = true := by
  rw [List.any_eq_true]; exact ⟨_, mem_getD xs k h, hk⟩
theorem take_all {xs : List Int} {k len : Nat} (hl : xs.length = len) (h : ¬ k < len) : xs.take k = xs := List.take_of_length_le (by omega)

set_option maxHeartbeats 400000 in
theorem index_any (a : Option Addr) (len cap : Nat) (xs : List Int) (v : Int) (w : World) (h : Ints w a len xs) :
    Calls Try.prog 14 #[.slice a len cap, .int .i64 v] w fun e w' => (∃ r : Int, e = .returned (.int .i64 r) ∧ decide (0 ≤ r) = xs.any (fun x => v == x)) ∧ w' = w := by
  have hl := h.1
  have hm := h.2.1
  have HL : Hid (xs.length = len) := hl
  go_enter Try.func14, Try.ntmps14
  go_wp2
  go_loop [8] (fun i => ∃ k : Nat, k ≤ len ∧ i = .int .i64 k ∧ (xs.take k).any (fun x => v == x) = false) (fun i => len - (intOf i).toNat)
  case atStart => exact ⟨0, Nat.zero_le _, rfl, by simp⟩
  case round =>
    obtain ⟨k, hk, rfl, hn⟩ := hrel
    have HN : Hid ((xs.take k).any (fun x => v == x) = false) := hn
    clear hn hl
    by_cases hlt : k < len
    · obtain ⟨b, off, rfl, hb, hc⟩ := h.at (by omega)
      have hck := hc k hlt
      clear hc h
      go_wp2
      · have hx : (v == xs[k]?.getD 0) = true := by assumption
        go_ret
        exact ⟨⟨_, rfl, by rw [any_of_getD xs k (by rw [HL.out]; exact hlt) hx]; simp⟩, rfl⟩
      · have hx : (v == xs[k]?.getD 0) = false := by assumption
        go_round
        case rel => exact ⟨k + 1, by omega, by go_num, not_mem_take_succ xs k (by rw [HL.out]; exact hlt) HN.out hx⟩
        case measure => simp [intOf]; omega
    · go_wp2
      go_ret
      refine ⟨⟨_, rfl, ?_⟩, rfl⟩
      have := HN.out
      rw [take_all HL.out hlt] at this
      rw [this]; decide

theorem contains_any (a : Option Addr) (len cap : Nat) (xs : List Int) (v : Int) (w : World) (h : Ints w a len xs) :
    Calls Try.prog 12 #[.slice a len cap, .int .i64 v] w fun e w' => e = .returned (.bool (xs.any (fun x => v == x))) ∧ w' = w := by
  have H : Hid (Ints w a len xs) := h
  clear h
  go_enter Try.func12, Try.ntmps12
  go_wp2_with (go_at_call 14; refine (index_any _ _ _ _ _ _ H.out).mono ?_; rintro e w' ⟨⟨r, rfl, hr⟩, rfl⟩; have HR := hide hr; clear hr)
  go_ret
  exact ⟨by rw [← HR.out]; rfl, rfl⟩

theorem any_zero (xs : List Int) : xs.any (fun x => (0 : Int) == x) = decide ((0 : Int) ∈ xs) := by
  induction xs with
  | nil => simp
  | cons x r ih => simp only [List.any_cons, ih, List.mem_cons, Bool.decide_or]; rfl

end Go.Proofs.Ytdiecplophahmaa.V
