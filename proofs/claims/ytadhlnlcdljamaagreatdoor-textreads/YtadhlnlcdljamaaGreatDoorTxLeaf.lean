/-
  Contracts: which bytes are blanks, letters, digits, in words (text, adjointref3).
-/
import Derived.Test.YtadhlnlcdljamaaGreatDoorRows
import Derived.WalkKit
import Derived.BigQuiet
import Derived.Below
import Derived.LoopTactic
import Derived.ArgAppend
namespace Go.Proofs.YtadhlnlcdljamaaGreatDoor.V
set_option maxRecDepth 20000
open Go.RowKit

/-- A fact that the walk does not look at. -/
def Hid (p : Prop) : Prop := p
theorem Hid.out {p : Prop} (h : Hid p) : p := h
theorem hide {p : Prop} (h : p) : Hid p := h

def blankI (c : Int) : Bool := c == 32 || (c == 9 || (c == 10 || c == 13))
def letterI (c : Int) : Bool := (decide (97 ≤ c) && decide (c ≤ 122)) || ((decide (65 ≤ c) && decide (c ≤ 90)) || c == 95)
def digitI (c : Int) : Bool := decide (48 ≤ c) && decide (c ≤ 57)
def wordI (c : Int) : Bool := letterI c || digitI c

set_option maxHeartbeats 1000000 in
theorem tBlank (c : Int) (w : World) : Calls Tryz.prog 30 #[.int .u8 c] w fun e w' => e = .returned (.bool (blankI c)) ∧ w' = w := by
  unfold blankI
  cases h1 : (c == 32) <;> cases h2 : (c == 9) <;> cases h3 : (c == 10) <;> cases h4 : (c == 13)
  all_goals
    go_enter Tryz.func30, Tryz.ntmps30
    go_wp2
    go_ret
    exact ⟨rfl, rfl⟩
set_option maxHeartbeats 1000000 in
theorem rBlank (c : Int) (w : World) : Calls Tryz.prog 18 #[.int .u8 c] w fun e w' => e = .returned (.bool (blankI c)) ∧ w' = w := by
  unfold blankI
  cases h1 : (c == 32) <;> cases h2 : (c == 9) <;> cases h3 : (c == 10) <;> cases h4 : (c == 13)
  all_goals
    go_enter Tryz.func18, Tryz.ntmps18
    go_wp2
    go_ret
    exact ⟨rfl, rfl⟩
set_option maxHeartbeats 1000000 in
theorem tDigit (c : Int) (w : World) : Calls Tryz.prog 35 #[.int .u8 c] w fun e w' => e = .returned (.bool (digitI c)) ∧ w' = w := by
  unfold digitI
  by_cases h1 : 48 ≤ c <;> by_cases h2 : c ≤ 57
  all_goals
    go_enter Tryz.func35, Tryz.ntmps35
    go_wp2
    go_ret
    exact ⟨by simp [h1, h2], rfl⟩
set_option maxHeartbeats 1000000 in
theorem rDigit (c : Int) (w : World) : Calls Tryz.prog 20 #[.int .u8 c] w fun e w' => e = .returned (.bool (digitI c)) ∧ w' = w := by
  unfold digitI
  by_cases h1 : 48 ≤ c <;> by_cases h2 : c ≤ 57
  all_goals
    go_enter Tryz.func20, Tryz.ntmps20
    go_wp2
    go_ret
    exact ⟨by simp [h1, h2], rfl⟩
set_option maxHeartbeats 2000000 in
theorem tLetter (c : Int) (w : World) : Calls Tryz.prog 33 #[.int .u8 c] w fun e w' => e = .returned (.bool (letterI c)) ∧ w' = w := by
  unfold letterI
  cases h5 : (c == 95) <;> by_cases h1 : 97 ≤ c <;> by_cases h2 : c ≤ 122 <;> by_cases h3 : 65 ≤ c <;> by_cases h4 : c ≤ 90
  all_goals
    go_enter Tryz.func33, Tryz.ntmps33
    go_wp2
    go_ret
    exact ⟨by simp [h1, h2, h3, h4], rfl⟩
set_option maxHeartbeats 2000000 in
theorem rLetter (c : Int) (w : World) : Calls Tryz.prog 19 #[.int .u8 c] w fun e w' => e = .returned (.bool (letterI c)) ∧ w' = w := by
  unfold letterI
  cases h5 : (c == 95) <;> by_cases h1 : 97 ≤ c <;> by_cases h2 : c ≤ 122 <;> by_cases h3 : 65 ≤ c <;> by_cases h4 : c ≤ 90
  all_goals
    go_enter Tryz.func19, Tryz.ntmps19
    go_wp2
    go_ret
    exact ⟨by simp [h1, h2, h3, h4], rfl⟩
set_option maxHeartbeats 1000000 in
theorem tWord (c : Int) (w : World) : Calls Tryz.prog 34 #[.int .u8 c] w fun e w' => e = .returned (.bool (wordI c)) ∧ w' = w := by
  unfold wordI
  have H1 := hide (tLetter c)
  have H2 := hide (tDigit c)
  obtain ⟨a, ha⟩ : ∃ a, a = letterI c := ⟨_, rfl⟩
  obtain ⟨b, hb⟩ : ∃ b, b = digitI c := ⟨_, rfl⟩
  rw [← ha] at H1 ⊢
  rw [← hb] at H2 ⊢
  clear ha hb
  cases a <;> cases b
  all_goals
    go_enter Tryz.func34, Tryz.ntmps34
    go_wp2_with (first
      | (go_at_call 33; refine (H1.out _).mono ?_; rintro e w' ⟨rfl, hw'⟩; obtain rfl := hw'.symm)
      | (go_at_call 35; refine (H2.out _).mono ?_; rintro e w' ⟨rfl, hw'⟩; obtain rfl := hw'.symm))
    go_ret
    exact ⟨rfl, rfl⟩
set_option maxHeartbeats 1000000 in
theorem tRemark (c : Int) (w : World) : Calls Tryz.prog 32 #[.int .u8 c] w fun e w' => e = .returned (.bool (c != 10)) ∧ w' = w := by
  cases h1 : (c != 10)
  all_goals
    go_enter Tryz.func32, Tryz.ntmps32
    go_wp2
    go_ret
    exact ⟨rfl, rfl⟩
end Go.Proofs.YtadhlnlcdljamaaGreatDoor.V
