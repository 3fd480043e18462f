/-
  Contracts: view.rises, adjointref1.Rising; sums over rising lists.
-/
import Derived.Test.YtfamaaahofjglaaPermutes
namespace Go.Proofs.Ytfamaaahofjglaa.V
open Go.RowKit

def risePre (xs : List Int) (n k : Nat) : Prop := ∀ i, i < k → 0 ≤ xs[i]?.getD 0 ∧ xs[i]?.getD 0 < n ∧ (0 < i → xs[i - 1]?.getD 0 < xs[i]?.getD 0)
def RiseOk (xs : List Int) (n : Nat) : Prop := risePre xs n xs.length
def riseB (xs : List Int) (n : Nat) : Bool := (List.range xs.length).all fun i => decide (0 ≤ xs[i]?.getD 0) && (decide (xs[i]?.getD 0 < n) && (decide (i = 0) || decide (xs[i - 1]?.getD 0 < xs[i]?.getD 0)))
theorem riseB_iff (xs : List Int) (n : Nat) : riseB xs n = true ↔ RiseOk xs n := by
  unfold riseB RiseOk risePre
  simp only [List.all_eq_true, List.mem_range, Bool.and_eq_true, Bool.or_eq_true, decide_eq_true_eq]
  constructor
  · intro h i hi
    obtain ⟨h1, h2, h3⟩ := h i hi
    exact ⟨h1, h2, fun h0 => h3.resolve_left (by omega)⟩
  · intro h i hi
    obtain ⟨h1, h2, h3⟩ := h i hi
    refine ⟨h1, h2, ?_⟩
    by_cases e : i = 0
    · exact .inl e
    · exact .inr (h3 (by omega))
theorem risePre_succ {xs : List Int} {n k : Nat} (h : risePre xs n k) (h0 : 0 ≤ xs[k]?.getD 0) (h1 : xs[k]?.getD 0 < n) (h2 : 0 < k → xs[k - 1]?.getD 0 < xs[k]?.getD 0) : risePre xs n (k + 1) := fun i hi => by
  by_cases e : i = k
  · subst e; exact ⟨h0, h1, h2⟩
  · exact h i (by omega)
theorem rise_ge {xs : List Int} {n k : Nat} (h : risePre xs n k) : ∀ i, i < k → (i : Int) ≤ xs[i]?.getD 0
  | 0, hi => by have := (h 0 hi).1; simpa using this
  | i + 1, hi => by
    have h1 := rise_ge h i (by omega)
    have h2 := (h (i + 1) hi).2.2 (by omega)
    simp at h2
    omega
theorem rise_len {xs : List Int} {n : Nat} (h : RiseOk xs n) : xs.length ≤ n := by
  by_cases e : xs.length = 0
  · omega
  · have h1 := rise_ge h (xs.length - 1) (by omega)
    have h2 := (h (xs.length - 1) (by omega)).2.1
    omega
theorem rise_lt {xs : List Int} {n : Nat} (h : RiseOk xs n) : ∀ i j, i < j → j < xs.length → xs[i]?.getD 0 < xs[j]?.getD 0 := by
  intro i j
  induction j with
  | zero => intro h0; omega
  | succ j ih =>
    intro hij hj
    have h1 := (h (j + 1) hj).2.2 (by omega)
    simp only [Nat.add_sub_cancel] at h1
    by_cases e : i = j
    · subst e; exact h1
    · have := ih (by omega) (by omega); omega

set_option maxHeartbeats 1000000 in
theorem rises_any (a : Option Addr) (len cap : Nat) (xs : List Int) (n : Nat) (w : World) (h : Ints w a len xs) (_h6 : n ≤ 6) :
    Calls Try.prog 41 #[.slice a len cap, .int .i64 n] w fun e w' => Tells e (RiseOk xs n) ∧ w' = w := by
  have hl := h.1
  have hm := h.2.1
  have H := hide h
  have HL := hide hl
  clear h hl
  go_enter Try.func41, Try.ntmps41
  go_wp2
  go_loop [5, 10] (fun v i => ∃ k : Nat, k ≤ len ∧ i = .int .i64 k ∧ v = .int .i64 (if k = 0 then -1 else xs[k - 1]?.getD 0) ∧ risePre xs n k) (fun _ i => len - (intOf i).toNat)
  case atStart => exact ⟨0, Nat.zero_le _, rfl, rfl, fun i hi => by omega⟩
  case round =>
    obtain ⟨k, hk, rfl, rfl, hp⟩ := hrel
    have HP := hide hp
    obtain ⟨p, hpe⟩ : ∃ p : Int, (if k = 0 then -1 else xs[k - 1]?.getD 0) = p := ⟨_, rfl⟩
    have hpm : -1 ≤ p := by
      rw [← hpe]
      by_cases e : k = 0
      · rw [if_pos e]; omega
      · rw [if_neg e]; have := (hp (k - 1) (by omega)).1; omega
    rw [hpe]
    have HPE := hide hpe
    clear hp hpe
    by_cases hlt : k < len
    · obtain ⟨b, off, rfl, hb, hc⟩ := H.out.at (by omega)
      have hck := hc k hlt
      clear hc
      by_cases q1 : xs[k]?.getD 0 ≤ p
      · go_wp2
        go_ret
        have hno : ¬ RiseOk xs n := fun hr => by
          have h1 := hr k (by rw [HL.out]; exact hlt)
          have h2 := HPE.out
          by_cases e : k = 0
          · rw [if_pos e] at h2; omega
          · rw [if_neg e] at h2; have := h1.2.2 (by omega); omega
        exact ⟨⟨false, rfl, by simp; exact hno⟩, rfl⟩
      by_cases q2 : (n : Int) ≤ xs[k]?.getD 0
      · go_wp2
        go_ret
        have hno : ¬ RiseOk xs n := fun hr => by have h1 := hr k (by rw [HL.out]; exact hlt); omega
        exact ⟨⟨false, rfl, by simp; exact hno⟩, rfl⟩
      go_wp2
      go_round
      case rel =>
        refine ⟨k + 1, by omega, by go_num, by simp, risePre_succ HP.out (by omega) (by omega) (fun h0 => ?_)⟩
        have h2 := HPE.out
        rw [if_neg (by omega)] at h2
        omega
      case measure => simp [intOf]; omega
    · go_wp2
      go_ret
      obtain rfl : k = len := by omega
      exact ⟨⟨true, rfl, by simp; unfold RiseOk; rw [HL.out]; exact HP.out⟩, rfl⟩

set_option maxHeartbeats 2000000 in
theorem rrising_any (a : Option Addr) (len cap : Nat) (xs : List Int) (n : Nat) (w : World) (h : Ints w a len xs) (_h6 : n ≤ 6) :
    Calls Try.prog 43 #[.slice a len cap, .int .i64 n] w fun e w' => Tells e (RiseOk xs n) ∧ w' = w := by
  have hl := h.1
  have hm := h.2.1
  have H := hide h
  have HL := hide hl
  clear h hl
  go_enter Try.func43, Try.ntmps43
  go_wp2
  go_loop [9] (fun i => ∃ k : Nat, k ≤ len ∧ i = .int .i64 k ∧ risePre xs n k) (fun i => len - (intOf i).toNat)
  case atStart => exact ⟨0, Nat.zero_le _, rfl, fun i hi => by omega⟩
  case round =>
    obtain ⟨k, hk, rfl, hp⟩ := hrel
    have HP := hide hp
    clear hp
    by_cases hlt : k < len
    · obtain ⟨b, off, rfl, hb, hc⟩ := H.out.at (by omega)
      have hck := hc k hlt
      by_cases q1 : xs[k]?.getD 0 < 0
      · clear hc
        go_wp2
        go_ret
        have hno : ¬ RiseOk xs n := fun hr => by have h1 := hr k (by rw [HL.out]; exact hlt); omega
        exact ⟨⟨false, rfl, by simp; exact hno⟩, rfl⟩
      by_cases q2 : (n : Int) ≤ xs[k]?.getD 0
      · clear hc
        go_wp2
        go_ret
        have hno : ¬ RiseOk xs n := fun hr => by have h1 := hr k (by rw [HL.out]; exact hlt); omega
        exact ⟨⟨false, rfl, by simp; exact hno⟩, rfl⟩
      by_cases q3 : 0 < k
      · obtain ⟨j, rfl⟩ : ∃ j, k = j + 1 := ⟨k - 1, by omega⟩
        have hcj := hc j (by omega)
        clear hc
        by_cases q4 : xs[j + 1]?.getD 0 ≤ xs[j]?.getD 0
        · go_wp2
          go_ret
          have hno : ¬ RiseOk xs n := fun hr => by have h1 := (hr (j + 1) (by rw [HL.out]; exact hlt)).2.2 (by omega); simp at h1; omega
          exact ⟨⟨false, rfl, by simp; exact hno⟩, rfl⟩
        · go_wp2
          go_round
          case rel => exact ⟨j + 1 + 1, by omega, by go_num, risePre_succ HP.out (by omega) (by omega) (fun _ => by simp; omega)⟩
          case measure => simp [intOf]; omega
      · obtain rfl : k = 0 := by omega
        have hck0 : w.cell? ⟨b, off, none⟩ = some (.int .i64 (xs[0]?.getD 0)) := by simpa using hck
        clear hc hck
        go_wp2
        go_round
        case rel => exact ⟨1, by omega, by go_num, risePre_succ HP.out (by omega) (by omega) (fun h0 => by omega)⟩
        case measure => simp [intOf]; omega
    · go_wp2
      go_ret
      obtain rfl : k = len := by omega
      exact ⟨⟨true, rfl, by simp; unfold RiseOk; rw [HL.out]; exact HP.out⟩, rfl⟩
end Go.Proofs.Ytfamaaahofjglaa.V
