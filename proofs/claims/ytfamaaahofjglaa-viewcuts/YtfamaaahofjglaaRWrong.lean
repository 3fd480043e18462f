/-
  Contracts: adjointref1.Wrong, adjointlaw1.sameView.
-/
import Derived.Test.YtfamaaahofjglaaWrong
namespace Go.Proofs.Ytfamaaahofjglaa.V
open Go.RowKit

set_option maxHeartbeats 1000000 in
theorem rwrong_any (s : Int) (da : Option Addr) (dl dc : Nat) (ds : List Int) (sa : Option Addr) (sl sc : Nat) (ss : List Int) (w : World) (hd : Ints w da dl ds) (hs : Ints w sa sl ss) :
    Calls Try.prog 13 #[.agg #[.int .i64 s, .slice da dl dc, .slice sa sl sc]] w fun e w' => e = .returned (.int .i64 (wrongE s ds ss)) ∧ Below w.heap.size w w' := by
  have HD := hide hd
  have HS := hide hs
  have ld := hd.1
  have ls := hs.1
  have md := hd.2.1
  have ms := hs.2.1
  clear hd hs
  by_cases hE : sizeE ds ≠ 0
  · have e : wrongE s ds ss = sizeE ds := by simp [wrongE, hE]
    rw [e]
    have hE1 : (sizeE ds != 0) = true := by simp [hE]
    clear e hE ld ls
    go_enter Try.func13, Try.ntmps13
    go_wp2_with (go_at_call 32; refine (rsize_any _ _ _ ds _ (HD.out.below ((Below.refl _ _).alloc (Nat.le_refl _) _))).mono ?_; rintro e w' ⟨rfl, hw'⟩; obtain rfl := hw'.symm)
    go_ret
    exact ⟨rfl, (Below.refl _ _).alloc (Nat.le_refl _) _⟩
  replace hE : sizeE ds = 0 := by simpa using hE
  by_cases hn : sl ≠ dl
  · have e : wrongE s ds ss = 6 := by simp [wrongE, hE, ld, ls, hn]
    rw [e]
    have HE := hide hE
    have hn1 : ((sl : Int) != (dl : Int)) = true := by simp; omega
    clear e hE ld ls hn
    go_enter Try.func13, Try.ntmps13
    go_wp2_with (go_at_call 32; refine (rsize_any _ _ _ ds _ (HD.out.below ((Below.refl _ _).alloc (Nat.le_refl _) _))).mono ?_; rintro e w' ⟨rfl, hw'⟩; obtain rfl := hw'.symm; rw [HE.out])
    go_ret
    exact ⟨rfl, (Below.refl _ _).alloc (Nat.le_refl _) _⟩
  obtain rfl : sl = dl := by omega
  have E1 : Hid (wrongE s ds ss = if beyondB s ss = true then 4 else 0) := by simp [Hid, wrongE, hE, ld, ls]
  have HE := hide hE
  have LS := hide ls
  clear hE ld ls hn
  cases c : farB s with
  | true =>
    have e : wrongE s ds ss = 4 := by rw [E1.out]; simp [beyondB, c]
    rw [e]
    have C := hide c
    clear c e
    go_enter Try.func13, Try.ntmps13
    go_wp2_with (first | (go_at_call 32; refine (rsize_any _ _ _ ds _ (HD.out.below ((Below.refl _ _).alloc (Nat.le_refl _) _))).mono ?_; rintro e w' ⟨rfl, hw'⟩; obtain rfl := hw'.symm; rw [HE.out]) | (go_at_call 35; refine (rfar_any _ _).mono ?_; rintro e w' ⟨rfl, hw'⟩; obtain rfl := hw'.symm; rw [C.out]))
    go_ret
    exact ⟨rfl, (Below.refl _ _).alloc (Nat.le_refl _) _⟩
  | false =>
    have E2 : Hid (wrongE s ds ss = if ss.any farB = true then 4 else 0) := by rw [Hid, E1.out]; simp [beyondB, c]
    have C := hide c
    clear c E1
    go_enter Try.func13, Try.ntmps13
    go_wp2_with (first | (go_at_call 32; refine (rsize_any _ _ _ ds _ (HD.out.below ((Below.refl _ _).alloc (Nat.le_refl _) _))).mono ?_; rintro e w' ⟨rfl, hw'⟩; obtain rfl := hw'.symm; rw [HE.out]) | (go_at_call 35; refine (rfar_any _ _).mono ?_; rintro e w' ⟨rfl, hw'⟩; obtain rfl := hw'.symm; rw [C.out]))
    go_loop [29] (fun i => ∃ k : Nat, k ≤ sl ∧ i = .int .i64 k ∧ (ss.take k).any farB = false) (fun i => sl - (intOf i).toNat)
    case atStart => exact ⟨0, Nat.zero_le _, rfl, by simp⟩
    case round =>
      obtain ⟨k, hk, rfl, hn⟩ := hrel
      have HN := hide hn
      clear hn
      by_cases hlt : k < sl
      · obtain ⟨b, off, rfl, hb, hc⟩ := HS.out.at (by omega)
        have hck := hc k hlt
        clear hc
        cases q : farB (ss[k]?.getD 0) with
        | true =>
          have Q := hide q
          clear q
          go_wp2_with (go_at_call 35; refine (rfar_any _ _).mono ?_; rintro e w' ⟨rfl, hw'⟩; obtain rfl := hw'.symm; rw [Q.out])
          go_ret
          rw [E2.out, if_pos (any_of_getD ss k (by rw [LS.out]; exact hlt) Q.out)]
          exact ⟨rfl, (Below.refl _ _).alloc (Nat.le_refl _) _⟩
        | false =>
          have Q := hide q
          clear q
          go_wp2_with (go_at_call 35; refine (rfar_any _ _).mono ?_; rintro e w' ⟨rfl, hw'⟩; obtain rfl := hw'.symm; rw [Q.out])
          go_round
          case rel => exact ⟨k + 1, by omega, by go_num, not_mem_take_succ ss k (by rw [LS.out]; exact hlt) HN.out Q.out⟩
          case measure => simp [intOf]; omega
      · go_wp2
        go_ret
        have := HN.out
        rw [take_all LS.out hlt] at this
        rw [E2.out, this]
        exact ⟨rfl, (Below.refl _ _).alloc (Nat.le_refl _) _⟩

set_option maxHeartbeats 1000000 in
theorem sameView_any (s : Int) (da : Option Addr) (dl dc : Nat) (ds : List Int) (sa : Option Addr) (sl sc : Nat) (ss : List Int) (s' : Int) (da' : Option Addr) (dl' dc' : Nat) (ds' : List Int) (sa' : Option Addr) (sl' sc' : Nat) (ss' : List Int) (w : World)
    (hd : Ints w da dl ds) (hs : Ints w sa sl ss) (hd' : Ints w da' dl' ds') (hs' : Ints w sa' sl' ss') (e0 : s = s') (e1 : ds = ds') (e2 : ss = ss') :
    Calls Try.prog 11 #[.agg #[.int .i64 s, .slice da dl dc, .slice sa sl sc], .agg #[.int .i64 s', .slice da' dl' dc', .slice sa' sl' sc']] w fun e w' => e = .returned (.bool true) ∧ Below w.heap.size w w' := by
  subst e0 e1 e2
  have HD := hide hd
  have HS := hide hs
  have HD' := hide hd'
  have HS' := hide hs'
  clear hd hs hd' hs'
  have q : (s == s) = true := by simp
  have hb2 : Below w.heap.size w ((w.alloc (.cells #[.int .i64 s, .slice da dl dc, .slice sa sl sc] 24)).alloc (.cells #[.int .i64 s, .slice da' dl' dc', .slice sa' sl' sc'] 24)) := ((Below.refl _ _).alloc (Nat.le_refl _) _).alloc (by simp) _
  have HB := hide hb2
  clear hb2
  go_enter Try.func11, Try.ntmps11
  go_wp2_with fail
  refine (same_any _ _ _ ds _ _ _ ds _ (HD.out.below HB.out) (HD'.out.below HB.out)).mono ?_
  rintro e w1 ⟨rfl, n1, rfl⟩
  have d1 : decide (ds = ds) = true := by simp
  rw [d1]
  clear d1
  go_wp2_with fail
  refine (same_any _ _ _ ss _ _ _ ss _ ((HS.out.below HB.out).below (below_drewN _ _)) ((HS'.out.below HB.out).below (below_drewN _ _))).mono ?_
  rintro e w2 ⟨rfl, n2, rfl⟩
  have d2 : decide (ss = ss) = true := by simp
  rw [d2]
  clear d2
  go_wp2
  go_ret
  exact ⟨rfl, Below.on HB.out (below_drewN _ _)⟩
end Go.Proofs.Ytfamaaahofjglaa.V
