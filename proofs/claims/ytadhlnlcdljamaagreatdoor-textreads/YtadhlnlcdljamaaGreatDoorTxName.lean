/-
  Contracts: isOwn, isName, isNumber, isSum, isProduct; IsName.
-/
import Derived.Test.YtadhlnlcdljamaaGreatDoorTxTree
namespace Go.Proofs.YtadhlnlcdljamaaGreatDoor.V
set_option maxRecDepth 20000
open Go.RowKit

set_option maxHeartbeats 1000000 in
theorem tOwn (s : ByteArray) (w : World) : Calls Tryz.prog 65 #[.string s] w fun e w' => e = .returned (.bool (isOwnB s)) ∧ w' = w := by
  unfold isOwnB
  cases h1 : (s.toList == [102, 110]) <;> cases h2 : (s.toList == [108, 101, 116]) <;> cases h3 : (s.toList == [105, 110]) <;> cases h4 : (s.toList == [114, 101, 112, 101, 97, 116]) <;> cases h5 : (s.toList == [119, 105, 116, 104])
  all_goals
    go_enter Tryz.func65, Tryz.ntmps65
    go_wp2
    go_ret
    exact ⟨rfl, rfl⟩
set_option maxHeartbeats 1000000 in
theorem tSum (s : ByteArray) (w : World) : Calls Tryz.prog 68 #[.string s] w fun e w' => e = .returned (.bool (isSumB s)) ∧ w' = w := by
  unfold isSumB
  cases h1 : (s.toList == [43]) <;> cases h2 : (s.toList == [45])
  all_goals
    go_enter Tryz.func68, Tryz.ntmps68
    go_wp2
    go_ret
    exact ⟨rfl, rfl⟩
set_option maxHeartbeats 1000000 in
theorem tProduct (s : ByteArray) (w : World) : Calls Tryz.prog 77 #[.string s] w fun e w' => e = .returned (.bool (isMulB s)) ∧ w' = w := by
  unfold isMulB
  cases h1 : (s.toList == [42])
  all_goals
    go_enter Tryz.func77, Tryz.ntmps77
    go_wp2
    go_ret
    exact ⟨rfl, rfl⟩
theorem ne_size {s : ByteArray} (h : (s.toList == []) = false) : 0 < s.size := by
  by_cases c : s.size = 0
  · rw [ByteArray.size_eq_zero_iff.1 c] at h
    simp at h
  · omega
set_option maxHeartbeats 1000000 in
theorem tNumber (s : ByteArray) (w : World) : Calls Tryz.prog 66 #[.string s] w fun e w' => e = .returned (.bool (isNumB s)) ∧ w' = w := by
  unfold isNumB
  cases h1 : (s.toList == []) with
  | false =>
    have h0 := ne_size h1
    have HD := hide (tDigit ((s[0].toNat : Nat) : Int) w)
    rw [xsOf_at s 0 h0]
    obtain ⟨b, hb⟩ : ∃ b, b = digitI ((s[0].toNat : Nat) : Int) := ⟨_, rfl⟩
    rw [← hb] at HD ⊢
    clear hb
    go_enter Tryz.func66, Tryz.ntmps66
    go_wp2_with (go_at_call 35; refine HD.out.mono ?_; rintro e w' ⟨rfl, hw'⟩; obtain rfl := hw'.symm)
    go_ret
    exact ⟨rfl, rfl⟩
  | true =>
    go_enter Tryz.func66, Tryz.ntmps66
    go_wp2
    go_ret
    exact ⟨rfl, rfl⟩

theorem allW_succ {xs : List Int} {k : Nat} (hk : k < xs.length) (h : (xs.take k).all wordI = true) (hd : wordI (xs[k]?.getD 0) = true) : (xs.take (k + 1)).all wordI = true := by
  rw [take_succ_at xs k hk, List.all_append, h]; simp [hd]
theorem allW_not {xs : List Int} {k : Nat} (hk : k < xs.length) (hd : wordI (xs[k]?.getD 0) = false) : xs.all wordI = false := by
  rw [List.all_eq_false]
  refine ⟨xs[k]'hk, List.getElem_mem hk, ?_⟩
  simp [hk] at hd
  simp [hd]
set_option maxHeartbeats 2000000 in
theorem tIsName (s : ByteArray) (w : World) (hs : s.size ≤ 65536) : Calls Tryz.prog 54 #[.string s] w fun e w' => e = .returned (.bool (isNameB s)) ∧ w' = w := by
  unfold isNameB
  cases h1 : (s.toList == []) with
  | true =>
    go_enter Tryz.func54, Tryz.ntmps54
    go_wp2
    go_ret
    exact ⟨rfl, rfl⟩
  | false =>
    have h0 := ne_size h1
    have HD := hide (tDigit ((s[0].toNat : Nat) : Int) w)
    have HO := hide (tOwn s w)
    have HL := hide (xsOf_length s)
    have HX := hide (xsOf_at s)
    rw [xsOf_at s 0 h0]
    obtain ⟨b, hb⟩ : ∃ b, b = digitI ((s[0].toNat : Nat) : Int) := ⟨_, rfl⟩
    rw [← hb] at HD ⊢
    obtain ⟨o, ho⟩ : ∃ o, o = isOwnB s := ⟨_, rfl⟩
    rw [← ho] at HO ⊢
    obtain ⟨xs, hxs⟩ : ∃ xs, xs = xsOf s := ⟨_, rfl⟩
    rw [← hxs] at HL HX ⊢
    clear hb ho hxs
    cases b with
    | true =>
      go_enter Tryz.func54, Tryz.ntmps54
      go_wp2_with (first | (go_at_call 35; refine HD.out.mono ?_; rintro e w' ⟨rfl, hw'⟩; obtain rfl := hw'.symm) | (go_at_call 65; refine HO.out.mono ?_; rintro e w' ⟨rfl, hw'⟩; obtain rfl := hw'.symm))
      go_ret
      exact ⟨rfl, rfl⟩
    | false =>
      cases o with
      | true =>
        go_enter Tryz.func54, Tryz.ntmps54
        go_wp2_with (first | (go_at_call 35; refine HD.out.mono ?_; rintro e w' ⟨rfl, hw'⟩; obtain rfl := hw'.symm) | (go_at_call 65; refine HO.out.mono ?_; rintro e w' ⟨rfl, hw'⟩; obtain rfl := hw'.symm))
        go_ret
        exact ⟨rfl, rfl⟩
      | false =>
        go_enter Tryz.func54, Tryz.ntmps54
        go_wp2_with (first | (go_at_call 35; refine HD.out.mono ?_; rintro e w' ⟨rfl, hw'⟩; obtain rfl := hw'.symm) | (go_at_call 65; refine HO.out.mono ?_; rintro e w' ⟨rfl, hw'⟩; obtain rfl := hw'.symm))
        go_loop [17] (fun i => ∃ k : Nat, k ≤ s.size ∧ i = .int .i64 (k : Int) ∧ (xs.take k).all wordI = true) (fun i => s.size - (intOf i).toNat)
        case atStart => exact ⟨0, Nat.zero_le _, rfl, rfl⟩
        case round =>
          obtain ⟨k, hkn, rfl, ha⟩ := hrel
          have HA := hide ha
          clear ha
          by_cases hlt : k < s.size
          · have HW := hide (tWord ((s[k].toNat : Nat) : Int) w)
            have HY := hide (HX.out k hlt)
            obtain ⟨b, hb⟩ : ∃ b, b = wordI ((s[k].toNat : Nat) : Int) := ⟨_, rfl⟩
            rw [← hb] at HW
            have HBB := hide hb
            clear hb
            cases b with
            | true =>
              go_wp2_with (go_at_call 34; refine HW.out.mono ?_; rintro e w' ⟨rfl, hw'⟩; obtain rfl := hw'.symm)
              go_round
              case rel => exact ⟨k + 1, by omega, by go_num, allW_succ (by rw [HL.out]; exact hlt) HA.out (by rw [HY.out]; exact HBB.out.symm)⟩
              case measure => simp [intOf]; omega
            | false =>
              go_wp2_with (go_at_call 34; refine HW.out.mono ?_; rintro e w' ⟨rfl, hw'⟩; obtain rfl := hw'.symm)
              go_ret
              rw [allW_not (xs := xs) (k := k) (by rw [HL.out]; exact hlt) (by rw [HY.out]; exact HBB.out.symm)]
              exact ⟨rfl, rfl⟩
          · have hk : k = s.size := by omega
            have HT : Hid (xs.all wordI = true) := by have := HA.out; rwa [List.take_of_length_le (by rw [HL.out]; omega)] at this
            go_wp2
            go_ret
            rw [HT.out]
            exact ⟨rfl, rfl⟩
end Go.Proofs.YtadhlnlcdljamaaGreatDoor.V
