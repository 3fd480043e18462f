/-
  Contracts: slices.Index, IndexFunc, Contains, ContainsFunc as view.Size uses them; view.Size. Contracts: adjointlaw1.same, adjointref1.has. Contract: adjointref1.Size. Contracts: view.beyond, view.Wrong, adjointref1.far, adjointref1.Wrong, adjointlaw1.sameView. Contracts: adjointref1.Wrong, adjointlaw1.sameView.
-/
import Derived.Test.YtoidgdbgpbcebaaRows
import Derived.Test.YtoidgdbgpbcebaaInts
import Derived.WalkKit
import Derived.BigQuiet
import Derived.Deep.QuietTactic
namespace Go.Proofs.Ytoidgdbgpbcebaa.V
open Go.RowKit

theorem not_mem_take_succ {p : Int → Bool} (xs : List Int) (k : Nat) (h : k < xs.length) (hn : (xs.take k).any p = false) (hk : p (xs[k]?.getD 0) = false) : (xs.take (k + 1)).any p = false := by
  rw [take_succ_getD xs k h, List.any_append, hn]; simp [hk]
theorem any_of_getD {p : Int → Bool} (xs : List Int) (k : Nat) (h : k < xs.length) (hk : p (xs[k]?.getD 0) = true) : xs.any p = true := by
  rw [List.any_eq_true]; exact ⟨_, mem_getD xs k h, hk⟩
theorem take_all {xs : List Int} {k len : Nat} (hl : xs.length = len) (h : ¬ k < len) : xs.take k = xs := List.take_of_length_le (by omega)

set_option maxHeartbeats 400000 in
theorem index_any (a : Option Addr) (len cap : Nat) (xs : List Int) (v : Int) (w : World) (h : Ints w a len xs) :
    Calls Try.prog 115 #[.slice a len cap, .int .i64 v] w fun e w' => (∃ r : Int, e = .returned (.int .i64 r) ∧ decide (0 ≤ r) = xs.any (fun x => v == x)) ∧ w' = w := by
  have hl := h.1
  have hm := h.2.1
  have HL : Hid (xs.length = len) := hl
  go_enter Try.func115, Try.ntmps115
  go_wp2
  go_loop [8] (fun i => ∃ k : Nat, k ≤ len ∧ i = .int .i64 k ∧ (xs.take k).any (fun x => v == x) = false) (fun i => len - (intOf i).toNat)
  case atStart => exact ⟨0, Nat.zero_le _, rfl, by simp⟩
  case round =>
    obtain ⟨k, hk, rfl, hn⟩ := hrel
    have HN : Hid ((xs.take k).any (fun x => v == x) = false) := hn
    clear hn hl
    by_cases hlt : k < len
    · obtain ⟨b, off, rfl, hb, hc⟩ := h.at (by omega)
      have hck := hc k hlt
      clear hc h
      go_wp2
      · have hx : (v == xs[k]?.getD 0) = true := by assumption
        go_ret
        exact ⟨⟨_, rfl, by rw [any_of_getD xs k (by rw [HL.out]; exact hlt) hx]; simp⟩, rfl⟩
      · have hx : (v == xs[k]?.getD 0) = false := by assumption
        go_round
        case rel => exact ⟨k + 1, by omega, by go_num, not_mem_take_succ xs k (by rw [HL.out]; exact hlt) HN.out hx⟩
        case measure => simp [intOf]; omega
    · go_wp2
      go_ret
      refine ⟨⟨_, rfl, ?_⟩, rfl⟩
      have := HN.out
      rw [take_all HL.out hlt] at this
      rw [this]; decide

theorem contains_any (a : Option Addr) (len cap : Nat) (xs : List Int) (v : Int) (w : World) (h : Ints w a len xs) :
    Calls Try.prog 109 #[.slice a len cap, .int .i64 v] w fun e w' => e = .returned (.bool (xs.any (fun x => v == x))) ∧ w' = w := by
  have H : Hid (Ints w a len xs) := h
  clear h
  go_enter Try.func109, Try.ntmps109
  go_wp2_with (go_at_call 115; refine (index_any _ _ _ _ _ _ H.out).mono ?_; rintro e w' ⟨⟨r, rfl, hr⟩, rfl⟩; have HR := hide hr; clear hr)
  go_ret
  exact ⟨by rw [← HR.out]; rfl, rfl⟩

set_option maxHeartbeats 400000 in
theorem indexFunc_any (a : Option Addr) (len cap : Nat) (xs : List Int) (w : World) (h : Ints w a len xs) :
    Calls Try.prog 87 #[.slice a len cap, .func (.func 108) #[] #[]] w fun e w' => (∃ r : Int, e = .returned (.int .i64 r) ∧ decide (0 ≤ r) = xs.any badDim) ∧ w' = w := by
  have hl := h.1
  have hm := h.2.1
  have HL : Hid (xs.length = len) := hl
  go_enter Try.func87, Try.ntmps87
  go_wp2
  go_loop [8] (fun i => ∃ k : Nat, k ≤ len ∧ i = .int .i64 k ∧ (xs.take k).any badDim = false) (fun i => len - (intOf i).toNat)
  case atStart => exact ⟨0, Nat.zero_le _, rfl, by simp⟩
  case round =>
    obtain ⟨k, hk, rfl, hn⟩ := hrel
    have HN : Hid ((xs.take k).any badDim = false) := hn
    clear hn hl
    by_cases hlt : k < len
    · obtain ⟨b, off, rfl, hb, hc⟩ := h.at (by omega)
      have hck := hc k hlt
      clear hc h
      by_cases h1 : xs[k]?.getD 0 < 0
      · go_wp2
        go_ret
        exact ⟨⟨_, rfl, by rw [any_of_getD xs k (by rw [HL.out]; exact hlt) (by simp [badDim, h1])]; simp⟩, rfl⟩
      · by_cases h2 : 4096 < xs[k]?.getD 0
        · go_wp2
          go_ret
          exact ⟨⟨_, rfl, by rw [any_of_getD xs k (by rw [HL.out]; exact hlt) (by simp [badDim, h2])]; simp⟩, rfl⟩
        · go_wp2
          go_round
          case rel => exact ⟨k + 1, by omega, by go_num, not_mem_take_succ xs k (by rw [HL.out]; exact hlt) HN.out (by simp [badDim]; omega)⟩
          case measure => simp [intOf]; omega
    · go_wp2
      go_ret
      refine ⟨⟨_, rfl, ?_⟩, rfl⟩
      have := HN.out
      rw [take_all HL.out hlt] at this
      rw [this]; decide

theorem containsFunc_any (a : Option Addr) (len cap : Nat) (xs : List Int) (w : World) (h : Ints w a len xs) :
    Calls Try.prog 63 #[.slice a len cap, .func (.func 108) #[] #[]] w fun e w' => e = .returned (.bool (xs.any badDim)) ∧ w' = w := by
  have H : Hid (Ints w a len xs) := h
  clear h
  go_enter Try.func63, Try.ntmps63
  go_wp2_with (go_at_call 87; refine (indexFunc_any _ _ _ _ _ H.out).mono ?_; rintro e w' ⟨⟨r, rfl, hr⟩, rfl⟩; have HR := hide hr; clear hr)
  go_ret
  exact ⟨by rw [← HR.out]; rfl, rfl⟩

theorem any_zero (xs : List Int) : xs.any (fun x => (0 : Int) == x) = decide ((0 : Int) ∈ xs) := by
  induction xs with
  | nil => simp
  | cons x r ih => simp only [List.any_cons, ih, List.mem_cons, Bool.decide_or]; rfl

set_option maxHeartbeats 1000000 in
theorem size_any (a : Option Addr) (len cap : Nat) (xs : List Int) (w : World) (h : Ints w a len xs) :
    Calls Try.prog 92 #[.slice a len cap] w fun e w' => e = .returned (.tuple #[.int .i64 (sizeN xs), .int .i64 (sizeE xs)]) ∧ w' = w := by
  have hl := h.1
  have hm := h.2.1
  have H : Hid (Ints w a len xs) := h
  clear h
  by_cases c1 : 6 < len
  · have e1 : sizeN xs = 0 := by simp [sizeN, hl, c1]
    have e2 : sizeE xs = 3 := by simp [sizeE, hl, c1]
    rw [e1, e2]
    clear hl e1 e2
    go_enter Try.func92, Try.ntmps92
    go_wp2
    go_ret2
    exact ⟨rfl, rfl⟩
  have c1' : len ≤ 6 := by omega
  cases c2 : xs.any badDim with
  | true =>
    have e1 : sizeN xs = 0 := by simp only [sizeN, hl, c2, if_neg c1]; simp
    have e2 : sizeE xs = 4 := by simp only [sizeE, hl, c2, if_neg c1]; simp
    rw [e1, e2]
    clear hl e1 e2
    have C2 := hide c2
    clear c2 c1
    go_enter Try.func92, Try.ntmps92
    go_wp2_with (go_at_call 63; refine (containsFunc_any _ _ _ _ _ H.out).mono ?_; rintro e w' ⟨rfl, rfl⟩; rw [C2.out])
    go_ret2
    exact ⟨rfl, rfl⟩
  | false =>
    have C2 := hide c2
    by_cases c3 : (0 : Int) ∈ xs
    · have e1 : sizeN xs = 0 := by simp only [sizeN, hl, c2, if_neg c1, if_pos c3]; simp
      have e2 : sizeE xs = 0 := by simp only [sizeE, hl, c2, if_neg c1, if_pos c3]; simp
      rw [e1, e2]
      have C3 : Hid (xs.any (fun x => (0 : Int) == x) = true) := by rw [any_zero]; exact decide_eq_true c3
      clear hl e1 e2 c1 c2 c3
      go_enter Try.func92, Try.ntmps92
      go_wp2_with (first | (go_at_call 63; refine (containsFunc_any _ _ _ _ _ H.out).mono ?_; rintro e w' ⟨rfl, rfl⟩; rw [C2.out]) | (go_at_call 109; refine (contains_any _ _ _ _ _ _ H.out).mono ?_; rintro e w' ⟨rfl, rfl⟩; rw [C3.out]))
      go_ret2
      exact ⟨rfl, rfl⟩
    · have hg := good_dims c2 c3
      have C3 : Hid (xs.any (fun x => (0 : Int) == x) = false) := by rw [any_zero]; exact decide_eq_false c3
      have E1 : Hid (sizeN xs = if 65536 < prod xs then 0 else prod xs) := by simp only [Hid, sizeN, hl, c2, if_neg c1, if_neg c3]; simp
      have E2 : Hid (sizeE xs = if 65536 < prod xs then 5 else 0) := by simp only [Hid, sizeE, hl, c2, if_neg c1, if_neg c3]; simp
      have HL := hide hl
      have HG := hide hg
      clear hl c1 c2 c3 hg
      go_enter Try.func92, Try.ntmps92
      go_wp2_with (first | (go_at_call 63; refine (containsFunc_any _ _ _ _ _ H.out).mono ?_; rintro e w' ⟨rfl, rfl⟩; rw [C2.out]) | (go_at_call 109; refine (contains_any _ _ _ _ _ _ H.out).mono ?_; rintro e w' ⟨rfl, rfl⟩; rw [C3.out]))
      go_loop [4, 16] (fun s i => ∃ k : Nat, k ≤ len ∧ i = .int .i64 k ∧ s = .int .i64 (prod (xs.take k)) ∧ prod (xs.take k) ≤ 65536) (fun _ i => len - (intOf i).toNat)
      case atStart => exact ⟨0, Nat.zero_le _, rfl, by simp [prod], by simp [prod]⟩
      case round =>
        obtain ⟨k, hk, rfl, rfl, hp⟩ := hrel
        by_cases hlt : k < len
        · obtain ⟨b, off, rfl, hb, hc⟩ := H.out.at (by omega)
          have hck := hc k hlt
          have hkl : k < xs.length := by rw [HL.out]; exact hlt
          have hd := HG.out _ (mem_getD xs k hkl)
          have HP : Hid (prod (xs.take (k + 1)) = prod (xs.take k) * xs[k]?.getD 0) := prod_take_succ xs k hkl
          have h0 := prod_pos (xs.take k) (fun y hy => (HG.out y (List.mem_of_mem_take hy)).1)
          have h1 : 1 ≤ prod (xs.take k) * xs[k]?.getD 0 := by rw [← HP.out]; exact prod_pos _ (fun y hy => (HG.out y (List.mem_of_mem_take hy)).1)
          have h2 : prod (xs.take k) * xs[k]?.getD 0 ≤ 65536 * 4096 := Int.mul_le_mul hp hd.2 (by omega) (by omega)
          clear hc hkl
          by_cases hq : 65536 < prod (xs.take k) * xs[k]?.getD 0
          · go_wp2
            go_ret2
            have : 65536 < prod xs := by have := prod_take_le xs (fun y hy => (HG.out y hy).1) (k + 1); rw [HP.out] at this; omega
            rw [E1.out, E2.out, if_pos this, if_pos this]
            exact ⟨rfl, rfl⟩
          · go_wp2
            go_round
            case rel => exact ⟨k + 1, by omega, by go_num, by rw [HP.out], by rw [HP.out]; omega⟩
            case measure => simp [intOf]; omega
        · go_wp2
          go_ret2
          have e := take_all HL.out hlt
          rw [e] at hp ⊢
          rw [E1.out, E2.out, if_neg (by omega), if_neg (by omega)]
          exact ⟨rfl, rfl⟩
end Go.Proofs.Ytoidgdbgpbcebaa.V
namespace Go.Proofs.Ytoidgdbgpbcebaa.V
open Go.RowKit

theorem below_drewN {w : World} (B : Nat) (n : Nat) : Below B w (w.drewN n) := ⟨rfl, rfl, rfl, Nat.le_refl _, fun _ _ => rfl⟩
/-- What is below holds on. -/
theorem Below.on {w w1 w2 : World} (h : Below w.heap.size w w1) (k : Below w1.heap.size w1 w2) : Below w.heap.size w w2 := h.trans (k.mono h.size)

theorem take_eq_succ {xs ys : List Int} {k : Nat} (h1 : k < xs.length) (h2 : k < ys.length) (h : xs.take k = ys.take k) (hk : xs[k]?.getD 0 = ys[k]?.getD 0) : xs.take (k + 1) = ys.take (k + 1) := by
  rw [take_succ_getD xs k h1, take_succ_getD ys k h2, h, hk]
theorem ne_of_getD {xs ys : List Int} {k : Nat} (hk : xs[k]?.getD 0 ≠ ys[k]?.getD 0) : xs ≠ ys := fun e => hk (by rw [e])

end Go.Proofs.Ytoidgdbgpbcebaa.V
namespace Go.Proofs.Ytoidgdbgpbcebaa.V
open Go.RowKit

theorem any_take_succ {p : Int → Bool} (xs : List Int) (k : Nat) (h : k < xs.length) : (xs.take (k + 1)).any p = ((xs.take k).any p || p (xs[k]?.getD 0)) := by
  rw [take_succ_getD xs k h, List.any_append]; simp

end Go.Proofs.Ytoidgdbgpbcebaa.V
namespace Go.Proofs.Ytoidgdbgpbcebaa.V
open Go.RowKit

def farB (x : Int) : Bool := decide (x < -1099511627776) || decide (1099511627776 < x)
def beyondB (s : Int) (ss : List Int) : Bool := farB s || ss.any farB
def wrongE (s : Int) (ds ss : List Int) : Int := if sizeE ds ≠ 0 then sizeE ds else if ss.length ≠ ds.length then 6 else if beyondB s ss = true then 4 else 0

end Go.Proofs.Ytoidgdbgpbcebaa.V
namespace Go.Proofs.Ytoidgdbgpbcebaa.V
open Go.RowKit

end Go.Proofs.Ytoidgdbgpbcebaa.V
