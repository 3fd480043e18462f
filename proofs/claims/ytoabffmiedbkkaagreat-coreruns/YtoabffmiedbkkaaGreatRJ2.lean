/-
  Contracts: slices.Index, IndexFunc, Contains, ContainsFunc as view.Size uses them; view.Size. Contracts: adjointlaw1.same, adjointref1.has. Contracts: adjointref2.SameList, slices.Equal. Contract: adjointref1.Size. Contracts: view.beyond, view.Wrong, adjointref1.far, adjointref1.Wrong, adjointlaw1.sameView. Contracts: adjointref1.Wrong, adjointlaw1.sameView. Contracts: array.takes, adjointref2.Right.
-/
import Derived.Test.YtoabffmiedbkkaaGreatRows
import Derived.Test.YtoabffmiedbkkaaGreatRJ1
import Derived.WalkKit
import Derived.BigQuiet
import Derived.Deep.QuietTactic
import Derived.BigRegion
namespace Go.Proofs.YtoabffmiedbkkaaGreat.V
set_option maxRecDepth 20000
open Go.RowKit

theorem not_mem_take_succ {p : Int → Bool} (xs : List Int) (k : Nat) (h : k < xs.length) (hn : (xs.take k).any p = false) (hk : p (xs[k]?.getD 0) = false) : (xs.take (k + 1)).any p = false := by
  rw [take_succ_getD xs k h, List.any_append, hn]; simp [hk]
theorem any_of_getD {p : Int → Bool} (xs : List Int) (k : Nat) (h : k < xs.length) (hk : p (xs[k]?.getD 0) = true) : xs.any p = true := by
  rw [List.any_eq_true]; exact ⟨_, mem_getD xs k h, hk⟩
theorem take_all {xs : List Int} {k len : Nat} (hl : xs.length = len) (h : ¬ k < len) : xs.take k = xs := List.take_of_length_le (by omega)

set_option maxHeartbeats 400000 in
theorem index_any (a : Option Addr) (len cap : Nat) (xs : List Int) (v : Int) (w : World) (h : Ints w a len xs) :
    Calls Tryz.prog 103 #[.slice a len cap, .int .i64 v] w fun e w' => (∃ r : Int, e = .returned (.int .i64 r) ∧ decide (0 ≤ r) = xs.any (fun x => v == x)) ∧ w' = w := by
  have hl := h.1
  have hm := h.2.1
  have HL : Hid (xs.length = len) := hl
  go_enter Tryz.func103, Tryz.ntmps103
  go_wp2
  go_loop [8] (fun i => ∃ k : Nat, k ≤ len ∧ i = .int .i64 k ∧ (xs.take k).any (fun x => v == x) = false) (fun i => len - (intOf i).toNat)
  case atStart => exact ⟨0, Nat.zero_le _, rfl, by simp⟩
  case round =>
    obtain ⟨k, hk, rfl, hn⟩ := hrel
    have HN : Hid ((xs.take k).any (fun x => v == x) = false) := hn
    clear hn hl
    by_cases hlt : k < len
    · obtain ⟨b, off, rfl, hb, hc⟩ := h.at (by omega)
      have hck := hc k hlt
      clear hc h
      go_wp2
      · have hx : (v == xs[k]?.getD 0) = true := by assumption
        go_ret
        exact ⟨⟨_, rfl, by rw [any_of_getD xs k (by rw [HL.out]; exact hlt) hx]; simp⟩, rfl⟩
      · have hx : (v == xs[k]?.getD 0) = false := by assumption
        go_round
        case rel => exact ⟨k + 1, by omega, by go_num, not_mem_take_succ xs k (by rw [HL.out]; exact hlt) HN.out hx⟩
        case measure => simp [intOf]; omega
    · go_wp2
      go_ret
      refine ⟨⟨_, rfl, ?_⟩, rfl⟩
      have := HN.out
      rw [take_all HL.out hlt] at this
      rw [this]; decide

theorem contains_any (a : Option Addr) (len cap : Nat) (xs : List Int) (v : Int) (w : World) (h : Ints w a len xs) :
    Calls Tryz.prog 77 #[.slice a len cap, .int .i64 v] w fun e w' => e = .returned (.bool (xs.any (fun x => v == x))) ∧ w' = w := by
  have H : Hid (Ints w a len xs) := h
  clear h
  go_enter Tryz.func77, Tryz.ntmps77
  go_wp2_with (go_at_call 103; refine (index_any _ _ _ _ _ _ H.out).mono ?_; rintro e w' ⟨⟨r, rfl, hr⟩, rfl⟩; have HR := hide hr; clear hr)
  go_ret
  exact ⟨by rw [← HR.out]; rfl, rfl⟩

set_option maxHeartbeats 400000 in
theorem indexFunc_any (a : Option Addr) (len cap : Nat) (xs : List Int) (w : World) (h : Ints w a len xs) :
    Calls Tryz.prog 102 #[.slice a len cap, .func (.func 76) #[] #[]] w fun e w' => (∃ r : Int, e = .returned (.int .i64 r) ∧ decide (0 ≤ r) = xs.any badDim) ∧ w' = w := by
  have hl := h.1
  have hm := h.2.1
  have HL : Hid (xs.length = len) := hl
  go_enter Tryz.func102, Tryz.ntmps102
  go_wp2
  go_loop [8] (fun i => ∃ k : Nat, k ≤ len ∧ i = .int .i64 k ∧ (xs.take k).any badDim = false) (fun i => len - (intOf i).toNat)
  case atStart => exact ⟨0, Nat.zero_le _, rfl, by simp⟩
  case round =>
    obtain ⟨k, hk, rfl, hn⟩ := hrel
    have HN : Hid ((xs.take k).any badDim = false) := hn
    clear hn hl
    by_cases hlt : k < len
    · obtain ⟨b, off, rfl, hb, hc⟩ := h.at (by omega)
      have hck := hc k hlt
      clear hc h
      by_cases h1 : xs[k]?.getD 0 < 0
      · go_wp2
        go_ret
        exact ⟨⟨_, rfl, by rw [any_of_getD xs k (by rw [HL.out]; exact hlt) (by simp [badDim, h1])]; simp⟩, rfl⟩
      · by_cases h2 : 4096 < xs[k]?.getD 0
        · go_wp2
          go_ret
          exact ⟨⟨_, rfl, by rw [any_of_getD xs k (by rw [HL.out]; exact hlt) (by simp [badDim, h2])]; simp⟩, rfl⟩
        · go_wp2
          go_round
          case rel => exact ⟨k + 1, by omega, by go_num, not_mem_take_succ xs k (by rw [HL.out]; exact hlt) HN.out (by simp [badDim]; omega)⟩
          case measure => simp [intOf]; omega
    · go_wp2
      go_ret
      refine ⟨⟨_, rfl, ?_⟩, rfl⟩
      have := HN.out
      rw [take_all HL.out hlt] at this
      rw [this]; decide

theorem containsFunc_any (a : Option Addr) (len cap : Nat) (xs : List Int) (w : World) (h : Ints w a len xs) :
    Calls Tryz.prog 75 #[.slice a len cap, .func (.func 76) #[] #[]] w fun e w' => e = .returned (.bool (xs.any badDim)) ∧ w' = w := by
  have H : Hid (Ints w a len xs) := h
  clear h
  go_enter Tryz.func75, Tryz.ntmps75
  go_wp2_with (go_at_call 102; refine (indexFunc_any _ _ _ _ _ H.out).mono ?_; rintro e w' ⟨⟨r, rfl, hr⟩, rfl⟩; have HR := hide hr; clear hr)
  go_ret
  exact ⟨by rw [← HR.out]; rfl, rfl⟩

theorem any_zero (xs : List Int) : xs.any (fun x => (0 : Int) == x) = decide ((0 : Int) ∈ xs) := by
  induction xs with
  | nil => simp
  | cons x r ih => simp only [List.any_cons, ih, List.mem_cons, Bool.decide_or]; rfl

set_option maxHeartbeats 1000000 in
theorem size_any (a : Option Addr) (len cap : Nat) (xs : List Int) (w : World) (h : Ints w a len xs) :
    Calls Tryz.prog 65 #[.slice a len cap] w fun e w' => e = .returned (.tuple #[.int .i64 (sizeN xs), .int .i64 (sizeE xs)]) ∧ w' = w := by
  have hl := h.1
  have hm := h.2.1
  have H : Hid (Ints w a len xs) := h
  clear h
  by_cases c1 : 6 < len
  · have e1 : sizeN xs = 0 := by simp [sizeN, hl, c1]
    have e2 : sizeE xs = 3 := by simp [sizeE, hl, c1]
    rw [e1, e2]
    clear hl e1 e2
    go_enter Tryz.func65, Tryz.ntmps65
    go_wp2
    go_ret2
    exact ⟨rfl, rfl⟩
  have c1' : len ≤ 6 := by omega
  cases c2 : xs.any badDim with
  | true =>
    have e1 : sizeN xs = 0 := by simp only [sizeN, hl, c2, if_neg c1]; simp
    have e2 : sizeE xs = 4 := by simp only [sizeE, hl, c2, if_neg c1]; simp
    rw [e1, e2]
    clear hl e1 e2
    have C2 := hide c2
    clear c2 c1
    go_enter Tryz.func65, Tryz.ntmps65
    go_wp2_with (go_at_call 75; refine (containsFunc_any _ _ _ _ _ H.out).mono ?_; rintro e w' ⟨rfl, rfl⟩; rw [C2.out])
    go_ret2
    exact ⟨rfl, rfl⟩
  | false =>
    have C2 := hide c2
    by_cases c3 : (0 : Int) ∈ xs
    · have e1 : sizeN xs = 0 := by simp only [sizeN, hl, c2, if_neg c1, if_pos c3]; simp
      have e2 : sizeE xs = 0 := by simp only [sizeE, hl, c2, if_neg c1, if_pos c3]; simp
      rw [e1, e2]
      have C3 : Hid (xs.any (fun x => (0 : Int) == x) = true) := by rw [any_zero]; exact decide_eq_true c3
      clear hl e1 e2 c1 c2 c3
      go_enter Tryz.func65, Tryz.ntmps65
      go_wp2_with (first | (go_at_call 75; refine (containsFunc_any _ _ _ _ _ H.out).mono ?_; rintro e w' ⟨rfl, rfl⟩; rw [C2.out]) | (go_at_call 77; refine (contains_any _ _ _ _ _ _ H.out).mono ?_; rintro e w' ⟨rfl, rfl⟩; rw [C3.out]))
      go_ret2
      exact ⟨rfl, rfl⟩
    · have hg := good_dims c2 c3
      have C3 : Hid (xs.any (fun x => (0 : Int) == x) = false) := by rw [any_zero]; exact decide_eq_false c3
      have E1 : Hid (sizeN xs = if 65536 < prod xs then 0 else prod xs) := by simp only [Hid, sizeN, hl, c2, if_neg c1, if_neg c3]; simp
      have E2 : Hid (sizeE xs = if 65536 < prod xs then 5 else 0) := by simp only [Hid, sizeE, hl, c2, if_neg c1, if_neg c3]; simp
      have HL := hide hl
      have HG := hide hg
      clear hl c1 c2 c3 hg
      go_enter Tryz.func65, Tryz.ntmps65
      go_wp2_with (first | (go_at_call 75; refine (containsFunc_any _ _ _ _ _ H.out).mono ?_; rintro e w' ⟨rfl, rfl⟩; rw [C2.out]) | (go_at_call 77; refine (contains_any _ _ _ _ _ _ H.out).mono ?_; rintro e w' ⟨rfl, rfl⟩; rw [C3.out]))
      go_loop [4, 16] (fun s i => ∃ k : Nat, k ≤ len ∧ i = .int .i64 k ∧ s = .int .i64 (prod (xs.take k)) ∧ prod (xs.take k) ≤ 65536) (fun _ i => len - (intOf i).toNat)
      case atStart => exact ⟨0, Nat.zero_le _, rfl, by simp [prod], by simp [prod]⟩
      case round =>
        obtain ⟨k, hk, rfl, rfl, hp⟩ := hrel
        by_cases hlt : k < len
        · obtain ⟨b, off, rfl, hb, hc⟩ := H.out.at (by omega)
          have hck := hc k hlt
          have hkl : k < xs.length := by rw [HL.out]; exact hlt
          have hd := HG.out _ (mem_getD xs k hkl)
          have HP : Hid (prod (xs.take (k + 1)) = prod (xs.take k) * xs[k]?.getD 0) := prod_take_succ xs k hkl
          have h0 := prod_pos (xs.take k) (fun y hy => (HG.out y (List.mem_of_mem_take hy)).1)
          have h1 : 1 ≤ prod (xs.take k) * xs[k]?.getD 0 := by rw [← HP.out]; exact prod_pos _ (fun y hy => (HG.out y (List.mem_of_mem_take hy)).1)
          have h2 : prod (xs.take k) * xs[k]?.getD 0 ≤ 65536 * 4096 := Int.mul_le_mul hp hd.2 (by omega) (by omega)
          clear hc hkl
          by_cases hq : 65536 < prod (xs.take k) * xs[k]?.getD 0
          · go_wp2
            go_ret2
            have : 65536 < prod xs := by have := prod_take_le xs (fun y hy => (HG.out y hy).1) (k + 1); rw [HP.out] at this; omega
            rw [E1.out, E2.out, if_pos this, if_pos this]
            exact ⟨rfl, rfl⟩
          · go_wp2
            go_round
            case rel => exact ⟨k + 1, by omega, by go_num, by rw [HP.out], by rw [HP.out]; omega⟩
            case measure => simp [intOf]; omega
        · go_wp2
          go_ret2
          have e := take_all HL.out hlt
          rw [e] at hp ⊢
          rw [E1.out, E2.out, if_neg (by omega), if_neg (by omega)]
          exact ⟨rfl, rfl⟩
end Go.Proofs.YtoabffmiedbkkaaGreat.V
namespace Go.Proofs.YtoabffmiedbkkaaGreat.V
set_option maxRecDepth 20000
open Go.RowKit

theorem below_drewN {w : World} (B : Nat) (n : Nat) : Below B w (w.drewN n) := ⟨rfl, rfl, rfl, Nat.le_refl _, fun _ _ => rfl⟩
/-- What is below holds on. -/
theorem Below.on {w w1 w2 : World} (h : Below w.heap.size w w1) (k : Below w1.heap.size w1 w2) : Below w.heap.size w w2 := h.trans (k.mono h.size)

theorem take_eq_succ {xs ys : List Int} {k : Nat} (h1 : k < xs.length) (h2 : k < ys.length) (h : xs.take k = ys.take k) (hk : xs[k]?.getD 0 = ys[k]?.getD 0) : xs.take (k + 1) = ys.take (k + 1) := by
  rw [take_succ_getD xs k h1, take_succ_getD ys k h2, h, hk]
theorem ne_of_getD {xs ys : List Int} {k : Nat} (hk : xs[k]?.getD 0 ≠ ys[k]?.getD 0) : xs ≠ ys := fun e => hk (by rw [e])

end Go.Proofs.YtoabffmiedbkkaaGreat.V
namespace Go.Proofs.YtoabffmiedbkkaaGreat.V
set_option maxRecDepth 20000
open Go.RowKit

set_option maxHeartbeats 1000000 in
theorem equal_any (a : Option Addr) (len cap : Nat) (xs : List Int) (a' : Option Addr) (len' cap' : Nat) (ys : List Int) (w : World) (h : Ints w a len xs) (h' : Ints w a' len' ys) :
    Calls Tryz.prog 63 #[.slice a len cap, .slice a' len' cap'] w fun e w' => e = .returned (.bool (decide (xs = ys))) ∧ ∃ n, w' = w.drewN n := by
  have hl := h.1
  have hm := h.2.1
  have hl' := h'.1
  have hm' := h'.2.1
  have H := hide h
  have H' := hide h'
  clear h h'
  by_cases c : len = len'
  · subst c
    have HL := hide hl
    have HL' := hide hl'
    clear hl hl'
    go_enter Tryz.func63, Tryz.ntmps63
    go_wp2
    go_loopw [13] (fun i wr => ∃ k : Nat, k ≤ len ∧ i = .int .i64 k ∧ xs.take k = ys.take k ∧ ∃ n, wr = w.drewN n) (fun i _ => len - (intOf i).toNat)
    case atStart => exact ⟨0, Nat.zero_le _, rfl, by simp, 0, rfl⟩
    case round =>
      obtain ⟨k, hk, rfl, ht, n, rfl⟩ := hrel
      have HT := hide ht
      clear ht
      by_cases hlt : k < len
      · obtain ⟨b, off, rfl, hb, hc⟩ := H.out.at (by omega)
        obtain ⟨b', off', rfl, hb', hc'⟩ := H'.out.at (by omega)
        have hck := hc k hlt
        have hck' := hc' k hlt
        clear hc hc'
        by_cases q : xs[k]?.getD 0 = ys[k]?.getD 0
        · have Q := hide q
          have q1 : (xs[k]?.getD 0 != ys[k]?.getD 0) = false := by simp [q]
          clear q
          go_wp2
          go_quiet (fail)
          go_wp2
          go_roundw
          case rel => exact ⟨k + 1, by omega, by go_num, take_eq_succ (by rw [HL.out]; exact hlt) (by rw [HL'.out]; exact hlt) HT.out Q.out, _, rfl⟩
          case measure => simp [intOf]; omega
        · have Q := hide q
          have q1 : (xs[k]?.getD 0 != ys[k]?.getD 0) = true := by simp [q]
          clear q
          go_wp2
          go_quiet (fail)
          go_wp2
          go_ret
          have d : decide (xs = ys) = false := by simp [ne_of_getD Q.out]
          rw [d]
          exact ⟨rfl, _, World.drewN_drewN _ _ _⟩
      · go_wp2
        go_ret
        have t := HT.out
        rw [take_all HL.out hlt, take_all HL'.out hlt] at t
        have d : decide (xs = ys) = true := by simp [t]
        rw [d]
        exact ⟨rfl, n, rfl⟩
  · have hne : xs ≠ ys := fun e => c (by rw [← hl, ← hl', e])
    have d : decide (xs = ys) = false := by simp [hne]
    rw [d]
    have c1 : ((len : Int) != (len' : Int)) = true := by simp; omega
    clear hl hl' hne d c
    go_enter Tryz.func63, Tryz.ntmps63
    go_wp2
    go_ret
    exact ⟨rfl, 0, rfl⟩
end Go.Proofs.YtoabffmiedbkkaaGreat.V
namespace Go.Proofs.YtoabffmiedbkkaaGreat.V
set_option maxRecDepth 20000
open Go.RowKit

end Go.Proofs.YtoabffmiedbkkaaGreat.V
namespace Go.Proofs.YtoabffmiedbkkaaGreat.V
set_option maxRecDepth 20000
open Go.RowKit

end Go.Proofs.YtoabffmiedbkkaaGreat.V
namespace Go.Proofs.YtoabffmiedbkkaaGreat.V
set_option maxRecDepth 20000
open Go.RowKit

end Go.Proofs.YtoabffmiedbkkaaGreat.V
namespace Go.Proofs.YtoabffmiedbkkaaGreat.V
set_option maxRecDepth 20000
open Go.RowKit

/-- What is wrong with a kind, and with so many arguments of it. -/
def takesE (k : Int) (n : Nat) : Int :=
  if k = 2 then (if n = 0 then 0 else 2)
  else if 9 ≤ k ∧ k ≤ 15 then (if n = 1 then 0 else 2)
  else if (3 ≤ k ∧ k ≤ 7) ∨ k = 16 ∨ k = 18 ∨ k = 19 then (if n = 2 then 0 else 2)
  else if k = 8 then (if n = 3 then 0 else 2)
  else if k = 17 then (if n = 0 then 2 else 0)
  else 1

theorem takes_no {k : Int} (n : Nat) (h : ¬ (2 ≤ k ∧ k ≤ 19)) : takesE k n = 1 := by
  unfold takesE
  rw [if_neg (by omega), if_neg (by omega), if_neg (by omega), if_neg (by omega), if_neg (by omega)]

set_option maxHeartbeats 4000000 in
theorem takes_any (k : Int) (n : Nat) (w : World) :
    Calls Tryz.prog 58 #[.int .i64 k, .int .i64 n] w fun e w' => e = .returned (.int .i64 (takesE k n)) ∧ w' = w := by
  by_cases hk : 2 ≤ k ∧ k ≤ 19
  · have hc : k = 2 ∨ k = 3 ∨ k = 4 ∨ k = 5 ∨ k = 6 ∨ k = 7 ∨ k = 8 ∨ k = 9 ∨ k = 10 ∨ k = 11 ∨ k = 12 ∨ k = 13 ∨ k = 14 ∨ k = 15 ∨ k = 16 ∨ k = 18 ∨ k = 19 ∨ k = 17 := by omega
    clear hk
    rcases hc with rfl | rfl | rfl | rfl | rfl | rfl | rfl | rfl | rfl | rfl | rfl | rfl | rfl | rfl | rfl | rfl | rfl | rfl
    all_goals go_enter Tryz.func58, Tryz.ntmps58
    all_goals go_wp2
    all_goals go_ret
    all_goals refine ⟨?_, rfl⟩
    all_goals (rename_i q; first | rw [bne_iff_ne] at q | rw [bne_eq_false_iff_eq] at q)
    all_goals simp [takesE]
    all_goals omega
  · rw [takes_no n hk]
    have q2 : (k == 2) = false := by simp; omega
    have q3 : (k == 3) = false := by simp; omega
    have q4 : (k == 4) = false := by simp; omega
    have q5 : (k == 5) = false := by simp; omega
    have q6 : (k == 6) = false := by simp; omega
    have q7 : (k == 7) = false := by simp; omega
    have q8 : (k == 8) = false := by simp; omega
    have q9 : (k == 9) = false := by simp; omega
    have q10 : (k == 10) = false := by simp; omega
    have q11 : (k == 11) = false := by simp; omega
    have q12 : (k == 12) = false := by simp; omega
    have q13 : (k == 13) = false := by simp; omega
    have q14 : (k == 14) = false := by simp; omega
    have q15 : (k == 15) = false := by simp; omega
    have q16 : (k == 16) = false := by simp; omega
    have q17 : (k == 17) = false := by simp; omega
    have q18 : (k == 18) = false := by simp; omega
    have q19 : (k == 19) = false := by simp; omega
    clear hk
    go_enter Tryz.func58, Tryz.ntmps58
    go_wp2
    go_ret
    exact ⟨rfl, rfl⟩

/-- A block that holds an Op. -/
def OpAt (w : World) (b : Nat) (k : Int) (vd va vl vh vs : Value) (x : Int) : Prop := w.heap[b]? = some (.cells #[.int .i64 k, vd, va, vl, vh, vs, .int .i64 x] 104 (0, 0))
theorem OpAt.lt {w : World} {b : Nat} {k : Int} {vd va vl vh vs : Value} {x : Int} (h : OpAt w b k vd va vl vh vs x) : b < w.heap.size := (Array.getElem?_eq_some_iff.1 h).1
theorem OpAt.below {w w' : World} {b : Nat} {k : Int} {vd va vl vh vs : Value} {x : Int} (h : OpAt w b k vd va vl vh vs x) (hb : Below w.heap.size w w') : OpAt w' b k vd va vl vh vs x := (hb.block b h.lt).trans h
theorem OpAt.alloc {w : World} {b : Nat} {k : Int} {vd va vl vh vs : Value} {x : Int} (h : OpAt w b k vd va vl vh vs x) (o : Obj) : OpAt (w.alloc o) b k vd va vl vh vs x := (Below.heap_alloc _ _ _ h.lt).trans h
theorem OpAt.set {w : World} {b : Nat} {k : Int} {vd va vl vh vs : Value} {x : Int} (h : OpAt w b k vd va vl vh vs x) {p : Addr} (hne : b ≠ p.block) (u : Value) : OpAt (w.setCell p u) b k vd va vl vh vs x := (Below.heap_setCell _ _ _ _ hne).trans h
theorem OpAt.cells {w : World} {b : Nat} {k : Int} {vd va vl vh vs : Value} {x : Int} (h : OpAt w b k vd va vl vh vs x) : w.cell? ⟨b, 0, none⟩ = some (.int .i64 k) ∧ w.cell? ⟨b, 1, none⟩ = some vd ∧ w.cell? ⟨b, 2, none⟩ = some va ∧ w.cell? ⟨b, 3, none⟩ = some vl ∧ w.cell? ⟨b, 4, none⟩ = some vh ∧ w.cell? ⟨b, 5, none⟩ = some vs ∧ w.cell? ⟨b, 6, none⟩ = some (.int .i64 x) := by
  unfold OpAt at h
  refine ⟨?_, ?_, ?_, ?_, ?_, ?_, ?_⟩ <;> simp [World.cell?, h]
theorem OpAt.new (w : World) (k : Int) (vd va vl vh vs : Value) (x : Int) : OpAt (w.alloc (.cells #[.int .i64 k, vd, va, vl, vh, vs, .int .i64 x] 104)) w.heap.size k vd va vl vh vs x := World.alloc_heap_new w _

end Go.Proofs.YtoabffmiedbkkaaGreat.V
