/-
  Contracts: view.beyond, view.Wrong, adjointref1.far, adjointref1.Wrong, adjointlaw1.sameView.
-/
import Derived.Test.YtfamaaahofjglaaRSize
import Derived.Test.YtfamaaahofjglaaSame
namespace Go.Proofs.Ytfamaaahofjglaa.V
open Go.RowKit

def farB (x : Int) : Bool := decide (x < -1099511627776) || decide (1099511627776 < x)
def beyondB (s : Int) (ss : List Int) : Bool := farB s || ss.any farB
def wrongE (s : Int) (ds ss : List Int) : Int := if sizeE ds ≠ 0 then sizeE ds else if ss.length ≠ ds.length then 6 else if beyondB s ss = true then 4 else 0

set_option maxHeartbeats 400000 in
theorem indexFar_any (a : Option Addr) (len cap : Nat) (xs : List Int) (w : World) (h : Ints w a len xs) :
    Calls Try.prog 53 #[.slice a len cap, .func (.func 51) #[] #[]] w fun e w' => (∃ r : Int, e = .returned (.int .i64 r) ∧ decide (0 ≤ r) = xs.any farB) ∧ w' = w := by
  have hl := h.1
  have hm := h.2.1
  have HL : Hid (xs.length = len) := hl
  go_enter Try.func53, Try.ntmps53
  go_wp2
  go_loop [8] (fun i => ∃ k : Nat, k ≤ len ∧ i = .int .i64 k ∧ (xs.take k).any farB = false) (fun i => len - (intOf i).toNat)
  case atStart => exact ⟨0, Nat.zero_le _, rfl, by simp⟩
  case round =>
    obtain ⟨k, hk, rfl, hn⟩ := hrel
    have HN : Hid ((xs.take k).any farB = false) := hn
    clear hn hl
    by_cases hlt : k < len
    · obtain ⟨b, off, rfl, hb, hc⟩ := h.at (by omega)
      have hck := hc k hlt
      clear hc h
      by_cases h1 : xs[k]?.getD 0 < -1099511627776
      · go_wp2
        go_ret
        exact ⟨⟨_, rfl, by rw [any_of_getD xs k (by rw [HL.out]; exact hlt) (by simp [farB, h1])]; simp⟩, rfl⟩
      · by_cases h2 : 1099511627776 < xs[k]?.getD 0
        · go_wp2
          go_ret
          exact ⟨⟨_, rfl, by rw [any_of_getD xs k (by rw [HL.out]; exact hlt) (by simp [farB, h2])]; simp⟩, rfl⟩
        · go_wp2
          go_round
          case rel => exact ⟨k + 1, by omega, by go_num, not_mem_take_succ xs k (by rw [HL.out]; exact hlt) HN.out (by simp [farB]; omega)⟩
          case measure => simp [intOf]; omega
    · go_wp2
      go_ret
      refine ⟨⟨_, rfl, ?_⟩, rfl⟩
      have := HN.out
      rw [take_all HL.out hlt] at this
      rw [this]; decide

theorem containsFar_any (a : Option Addr) (len cap : Nat) (xs : List Int) (w : World) (h : Ints w a len xs) :
    Calls Try.prog 47 #[.slice a len cap, .func (.func 51) #[] #[]] w fun e w' => e = .returned (.bool (xs.any farB)) ∧ w' = w := by
  have H : Hid (Ints w a len xs) := h
  clear h
  go_enter Try.func47, Try.ntmps47
  go_wp2_with (go_at_call 53; refine (indexFar_any _ _ _ _ _ H.out).mono ?_; rintro e w' ⟨⟨r, rfl, hr⟩, rfl⟩; have HR := hide hr; clear hr)
  go_ret
  exact ⟨by rw [← HR.out]; rfl, rfl⟩

set_option maxHeartbeats 400000 in
theorem far1_any (x : Int) (w : World) : Calls Try.prog 51 #[.int .i64 x] w fun e w' => e = .returned (.bool (farB x)) ∧ w' = w := by
  by_cases h1 : x < -1099511627776
  · have e : farB x = true := by simp [farB, h1]
    rw [e]
    clear e
    go_enter Try.func51, Try.ntmps51
    go_wp2
    go_ret
    exact ⟨rfl, rfl⟩
  by_cases h2 : 1099511627776 < x
  · have e : farB x = true := by simp [farB, h2]
    rw [e]
    clear e
    go_enter Try.func51, Try.ntmps51
    go_wp2
    go_ret
    exact ⟨rfl, rfl⟩
  · have e : farB x = false := by simp [farB]; omega
    rw [e]
    clear e
    go_enter Try.func51, Try.ntmps51
    go_wp2
    go_ret
    exact ⟨rfl, rfl⟩
set_option maxHeartbeats 400000 in
theorem rfar_any (x : Int) (w : World) : Calls Try.prog 35 #[.int .i64 x] w fun e w' => e = .returned (.bool (farB x)) ∧ w' = w := by
  by_cases h1 : 1099511627776 < x
  · have e : farB x = true := by simp [farB, h1]
    rw [e]
    clear e
    go_enter Try.func35, Try.ntmps35
    go_wp2
    go_ret
    exact ⟨rfl, rfl⟩
  by_cases h2 : x < -1099511627776
  · have e : farB x = true := by simp [farB, h2]
    rw [e]
    clear e
    go_enter Try.func35, Try.ntmps35
    go_wp2
    go_ret
    exact ⟨rfl, rfl⟩
  · have e : farB x = false := by simp [farB]; omega
    rw [e]
    clear e
    go_enter Try.func35, Try.ntmps35
    go_wp2
    go_ret
    exact ⟨rfl, rfl⟩

set_option maxHeartbeats 400000 in
theorem beyond_any (s : Int) (da : Option Addr) (dl dc : Nat) (sa : Option Addr) (sl sc : Nat) (ss : List Int) (w : World) (h : Ints w sa sl ss) :
    Calls Try.prog 34 #[.agg #[.int .i64 s, .slice da dl dc, .slice sa sl sc]] w fun e w' => e = .returned (.bool (beyondB s ss)) ∧ Below w.heap.size w w' := by
  have H := hide h
  clear h
  cases c : farB s with
  | true =>
    have e : beyondB s ss = true := by simp [beyondB, c]
    rw [e]
    clear e
    have C := hide c
    clear c
    go_enter Try.func34, Try.ntmps34
    go_wp2_with (go_at_call 51; refine (far1_any _ _).mono ?_; rintro e w' ⟨rfl, rfl⟩; rw [C.out])
    go_ret
    exact ⟨rfl, (Below.refl _ _).alloc (Nat.le_refl _) _⟩
  | false =>
    have e : beyondB s ss = ss.any farB := by simp [beyondB, c]
    rw [e]
    clear e
    have C := hide c
    clear c
    go_enter Try.func34, Try.ntmps34
    go_wp2_with (first | (go_at_call 51; refine (far1_any _ _).mono ?_; rintro e w' ⟨rfl, hw'⟩; obtain rfl := hw'.symm; rw [C.out]) | (go_at_call 47; refine (containsFar_any _ _ _ ss _ (H.out.below ((Below.refl _ _).alloc (Nat.le_refl _) _))).mono ?_; rintro e w' ⟨rfl, hw'⟩; obtain rfl := hw'.symm))
    go_ret
    exact ⟨rfl, (Below.refl _ _).alloc (Nat.le_refl _) _⟩

set_option maxHeartbeats 1000000 in
theorem wrong_any (s : Int) (da : Option Addr) (dl dc : Nat) (ds : List Int) (sa : Option Addr) (sl sc : Nat) (ss : List Int) (w : World) (hd : Ints w da dl ds) (hs : Ints w sa sl ss) :
    Calls Try.prog 12 #[.agg #[.int .i64 s, .slice da dl dc, .slice sa sl sc]] w fun e w' => e = .returned (.int .i64 (wrongE s ds ss)) ∧ Below w.heap.size w w' := by
  have HD := hide hd
  have HS := hide hs
  have ld := hd.1
  have ls := hs.1
  have md := hd.2.1
  have ms := hs.2.1
  clear hd hs
  by_cases hE : sizeE ds ≠ 0
  · have e : wrongE s ds ss = sizeE ds := by simp [wrongE, hE]
    rw [e]
    have hE1 : (sizeE ds != 0) = true := by simp [hE]
    clear e hE ld ls
    go_enter Try.func12, Try.ntmps12
    go_wp2_with (go_at_call 29; refine (size_any _ _ _ ds _ (HD.out.below ((Below.refl _ _).alloc (Nat.le_refl _) _))).mono ?_; rintro e w' ⟨rfl, hw'⟩; obtain rfl := hw'.symm)
    go_ret
    exact ⟨rfl, (Below.refl _ _).alloc (Nat.le_refl _) _⟩
  replace hE : sizeE ds = 0 := by simpa using hE
  by_cases hn : sl ≠ dl
  · have e : wrongE s ds ss = 6 := by simp [wrongE, hE, ld, ls, hn]
    rw [e]
    have HE := hide hE
    have hn1 : ((sl : Int) != (dl : Int)) = true := by simp; omega
    clear e hE ld ls hn
    go_enter Try.func12, Try.ntmps12
    go_wp2_with (go_at_call 29; refine (size_any _ _ _ ds _ (HD.out.below ((Below.refl _ _).alloc (Nat.le_refl _) _))).mono ?_; rintro e w' ⟨rfl, hw'⟩; obtain rfl := hw'.symm; rw [HE.out])
    go_ret
    exact ⟨rfl, (Below.refl _ _).alloc (Nat.le_refl _) _⟩
  obtain rfl : sl = dl := by omega
  have e : wrongE s ds ss = if beyondB s ss = true then 4 else 0 := by simp [wrongE, hE, ld, ls]
  rw [e]
  have HE := hide hE
  clear e hE ld ls hn
  cases c : beyondB s ss with
  | true =>
    have C := hide c
    clear c
    go_enter Try.func12, Try.ntmps12
    go_wp2_with (first | (go_at_call 29; refine (size_any _ _ _ ds _ (HD.out.below ((Below.refl _ _).alloc (Nat.le_refl _) _))).mono ?_; rintro e w' ⟨rfl, hw'⟩; obtain rfl := hw'.symm; rw [HE.out]) | (go_at_call 34; refine (beyond_any _ _ _ _ _ _ _ ss _ (HS.out.below ((Below.refl _ _).alloc (Nat.le_refl _) _))).mono ?_; rintro e w1 ⟨rfl, hb⟩; rw [C.out]; have HB := hide hb; clear hb))
    go_ret
    exact ⟨rfl, Below.on ((Below.refl _ _).alloc (Nat.le_refl _) _) HB.out⟩
  | false =>
    have C := hide c
    clear c
    go_enter Try.func12, Try.ntmps12
    go_wp2_with (first | (go_at_call 29; refine (size_any _ _ _ ds _ (HD.out.below ((Below.refl _ _).alloc (Nat.le_refl _) _))).mono ?_; rintro e w' ⟨rfl, hw'⟩; obtain rfl := hw'.symm; rw [HE.out]) | (go_at_call 34; refine (beyond_any _ _ _ _ _ _ _ ss _ (HS.out.below ((Below.refl _ _).alloc (Nat.le_refl _) _))).mono ?_; rintro e w1 ⟨rfl, hb⟩; rw [C.out]; have HB := hide hb; clear hb))
    go_ret
    exact ⟨rfl, Below.on ((Below.refl _ _).alloc (Nat.le_refl _) _) HB.out⟩
end Go.Proofs.Ytfamaaahofjglaa.V
