/-
  Contract: text.reach.
-/
import Derived.Test.YtadhlnlcdljamaaGreatDoorTxLeaf
namespace Go.Proofs.YtadhlnlcdljamaaGreatDoor.V
set_option maxRecDepth 20000
open Go.RowKit

/-- Where the bytes end, from a place on, that are all such. -/
def reachF (p : Int → Bool) (xs : List Int) : Nat → Nat → Nat
  | 0, k => k
  | f + 1, k => if k < xs.length ∧ p (xs[k]?.getD 0) = true then reachF p xs f (k + 1) else k
def reachN (p : Int → Bool) (xs : List Int) (k : Nat) : Nat := reachF p xs (xs.length - k) k
theorem reachN_go {p : Int → Bool} {xs : List Int} {k : Nat} (hk : k < xs.length) (h : p (xs[k]?.getD 0) = true) : reachN p xs k = reachN p xs (k + 1) := by
  unfold reachN
  have e : xs.length - k = (xs.length - (k + 1)) + 1 := by omega
  rw [e, reachF, if_pos ⟨hk, h⟩]
theorem reachN_stop {p : Int → Bool} {xs : List Int} {k : Nat} (h : ¬ (k < xs.length ∧ p (xs[k]?.getD 0) = true)) : reachN p xs k = k := by
  unfold reachN
  cases e : xs.length - k with
  | zero => rfl
  | succ f => rw [reachF, if_neg h]
theorem reachF_le (p : Int → Bool) (xs : List Int) : ∀ f k, k ≤ reachF p xs f k
  | 0, k => Nat.le_refl _
  | f + 1, k => by
    rw [reachF]
    split
    · have := reachF_le p xs f (k + 1); omega
    · exact Nat.le_refl _
theorem reachN_ge (p : Int → Bool) (xs : List Int) (k : Nat) : k ≤ reachN p xs k := reachF_le p xs _ k
theorem reachF_len (p : Int → Bool) (xs : List Int) : ∀ f k, k ≤ xs.length → reachF p xs f k ≤ xs.length
  | 0, k, h => h
  | f + 1, k, h => by
    rw [reachF]
    split
    · rename_i c; exact reachF_len p xs f (k + 1) (by omega)
    · exact h
theorem reachN_len {p : Int → Bool} {xs : List Int} {k : Nat} (h : k ≤ xs.length) : reachN p xs k ≤ xs.length := reachF_len p xs _ k h
theorem reachF_all (p : Int → Bool) (xs : List Int) : ∀ f k j, k ≤ j → j < reachF p xs f k → p (xs[j]?.getD 0) = true
  | 0, k, j, h1, h2 => by rw [reachF] at h2; omega
  | f + 1, k, j, h1, h2 => by
    rw [reachF] at h2
    split at h2
    · rename_i c
      by_cases e : j = k
      · rw [e]; exact c.2
      · exact reachF_all p xs f (k + 1) j (by omega) h2
    · omega
theorem reachN_all {p : Int → Bool} {xs : List Int} {k j : Nat} (h1 : k ≤ j) (h2 : j < reachN p xs k) : p (xs[j]?.getD 0) = true := reachF_all p xs _ k j h1 h2

/-- Bytes that lie in memory. -/
def BytesAt (w : World) (g n : Nat) (xs : List Int) : Prop := xs.length = n ∧ n ≤ 9223372036854775807 ∧ (∀ x ∈ xs, 0 ≤ x ∧ x ≤ 255) ∧ ∀ j, j < n → w.cell? ⟨g, j, none⟩ = some (.int .u8 (xs[j]?.getD 0))

theorem enters {f : FuncId} {fn : Func} (hf : Tryz.prog.funcs[f]? = some fn) (hn : (fn.name == "runtime.NumGoroutine") = false) (hb : fn.body.isNone = false) (args : Array Value) (w : World) : (callFunc f args).run Tryz.prog w = .ok (.enter f args) w := by
  simp [callFunc, go_sem, hf]
  rw [if_neg (by intro e; rw [e] at hn; simp at hn), if_neg (by intro e; rw [e] at hb; simp at hb)]

set_option maxHeartbeats 1000000 in
theorem reach_any (p : Int → Bool) (f : FuncId) (g n cap k0 : Nat) (xs : List Int) (w : World) (hb : BytesAt w g n xs) (hk : k0 ≤ n) (hcf : ∀ (args : Array Value) (w : World), (callFunc f args).run Tryz.prog w = .ok (.enter f args) w)
    (hcall : ∀ (c : Int) (W : World), Calls Tryz.prog f #[.int .u8 c] W fun e W' => e = .returned (.bool (p c)) ∧ W' = W) :
    Calls Tryz.prog 31 #[.slice (some ⟨g, 0, none⟩) n cap, .int .i64 (k0 : Int), .func (Fn.func f) #[] #[]] w fun e w' => e = .returned (.int .i64 ((reachN p xs k0 : Nat) : Int)) ∧ w' = w := by
  obtain ⟨hl, hm, hx, hc⟩ := hb
  have HC := hide hc
  have HL := hide hl
  have HF := hide hcall
  clear hc hl hcall hx
  go_enter Tryz.func31, Tryz.ntmps31
  go_wp2
  go_loop [1] (fun i => ∃ k : Nat, k ≤ n ∧ i = .int .i64 (k : Int) ∧ reachN p xs k = reachN p xs k0) (fun i => n - (intOf i).toNat)
  case atStart => exact ⟨k0, hk, rfl, rfl⟩
  case round =>
    obtain ⟨k, hkn, rfl, hr⟩ := hrel
    have HR := hide hr
    clear hr
    by_cases hlt : k < n
    · have cj := HC.out k hlt
      obtain ⟨y, hy⟩ : ∃ y, y = xs[k]?.getD 0 := ⟨_, rfl⟩
      rw [← hy] at cj
      have HY := hide hy
      have HP := hide (HF.out y)
      clear hy
      have i1 : (0 : Int) ≤ (k : Int) := Int.natCast_nonneg _
      have i2 : (k : Int) < (n : Int) := by omega
      cases hp : p y with
      | true =>
        rw [hp] at HP
        go_wp2_with (refine (HP.out _).mono ?_; rintro e w' ⟨rfl, hw'⟩; obtain rfl := hw'.symm)
        go_round
        case rel => exact ⟨k + 1, by omega, by go_num, (reachN_go (by rw [HL.out]; exact hlt) (by rw [← HY.out]; exact hp)).symm.trans HR.out⟩
        case measure => simp [intOf]; omega
      | false =>
        rw [hp] at HP
        go_wp2_with (refine (HP.out _).mono ?_; rintro e w' ⟨rfl, hw'⟩; obtain rfl := hw'.symm)
        go_ret
        rw [← HR.out, reachN_stop (fun h => by rw [← HY.out, hp] at h; exact absurd h.2 (by simp))]
        exact ⟨rfl, rfl⟩
    · go_wp2
      go_ret
      rw [← HR.out, reachN_stop (fun h => by rw [HL.out] at h; omega)]
      exact ⟨rfl, rfl⟩
end Go.Proofs.YtadhlnlcdljamaaGreatDoor.V
