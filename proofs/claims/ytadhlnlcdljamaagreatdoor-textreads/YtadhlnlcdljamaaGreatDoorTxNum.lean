/-
  Contracts: adjointref3.numeral, adjointref3.Value.
-/
import Derived.Test.YtadhlnlcdljamaaGreatDoorTxReach
namespace Go.Proofs.YtadhlnlcdljamaaGreatDoor.V
set_option maxRecDepth 20000
open Go.RowKit

theorem wrap_in (x : Int) (h1 : -9223372036854775808 ≤ x) (h2 : x ≤ 9223372036854775807) : IntKind.i64.wrap x = x := by
  have b1 : IntKind.i64.bits = 64 := rfl
  have b2 : IntKind.i64.signed = true := rfl
  unfold IntKind.wrap
  simp [b1, b2]
  omega
theorem wrap8_in (x : Int) (h1 : 0 ≤ x) (h2 : x ≤ 255) : IntKind.u8.wrap x = x := by
  have b1 : IntKind.u8.bits = 8 := rfl
  have b2 : IntKind.u8.signed = false := rfl
  unfold IntKind.wrap
  simp [b1, b2]
  omega
/-- The bytes of a text. -/
def xsOf (s : ByteArray) : List Int := s.data.toList.map fun b : UInt8 => (b.toNat : Int)
theorem xsOf_length (s : ByteArray) : (xsOf s).length = s.size := by simp [xsOf]
theorem xsOf_at (s : ByteArray) (k : Nat) (h : k < s.size) : (xsOf s)[k]?.getD 0 = ((s[k]'h).toNat : Int) := by
  have h' : k < s.data.size := h
  have e : s.data.toList[k]? = some (s.data[k]'h') := by simp
  show ((s.data.toList.map fun b : UInt8 => (b.toNat : Int))[k]?).getD 0 = (((s.data[k]'h').toNat : Nat) : Int)
  rw [List.getElem?_map, e]; rfl
theorem xsOf_bd (s : ByteArray) : ∀ x ∈ xsOf s, 0 ≤ x ∧ x ≤ 255 := by
  intro x hx
  simp only [xsOf, List.mem_map] at hx
  obtain ⟨b, _, rfl⟩ := hx
  have := b.toNat_lt
  omega
theorem take_succ_at (xs : List Int) (k : Nat) (h : k < xs.length) : xs.take (k + 1) = xs.take k ++ [xs[k]?.getD 0] := by
  rw [List.take_add_one, List.getElem?_eq_getElem h]; rfl
/-- What digits spell. -/
def numVal (xs : List Int) : Int := xs.foldl (fun a c => a * 10 + (c - 48)) 0
theorem numVal_snoc (xs : List Int) (c : Int) : numVal (xs ++ [c]) = numVal xs * 10 + (c - 48) := by simp [numVal]
theorem numVal_succ (xs : List Int) (k : Nat) (h : k < xs.length) : numVal (xs.take (k + 1)) = numVal (xs.take k) * 10 + (xs[k]?.getD 0 - 48) := by rw [take_succ_at xs k h, numVal_snoc]
theorem digit_bd {c : Int} (h : digitI c = true) : 48 ≤ c ∧ c ≤ 57 := by simpa [digitI] using h
theorem digits_at {xs : List Int} (h : xs.all digitI = true) (k : Nat) (hk : k < xs.length) : 48 ≤ xs[k]?.getD 0 ∧ xs[k]?.getD 0 ≤ 57 := by
  rw [List.all_eq_true] at h
  have := h (xs[k]'hk) (List.getElem_mem hk)
  simp [hk]
  exact digit_bd this
theorem numVal_nn {xs : List Int} (h : xs.all digitI = true) : ∀ k, k ≤ xs.length → 0 ≤ numVal (xs.take k)
  | 0, _ => by simp [numVal]
  | k + 1, hk => by
    have h1 := numVal_nn h k (by omega)
    have h2 := digits_at h k (by omega)
    rw [numVal_succ xs k (by omega)]; omega
theorem numVal_mono {xs : List Int} (h : xs.all digitI = true) : ∀ d k, k + d ≤ xs.length → numVal (xs.take k) ≤ numVal (xs.take (k + d))
  | 0, k, _ => Int.le_refl _
  | d + 1, k, hk => by
    have h1 := numVal_mono h d k (by omega)
    have h2 := digits_at h (k + d) (by omega)
    have h3 := numVal_nn h (k + d) (by omega)
    have e : k + (d + 1) = (k + d) + 1 := by omega
    rw [e, numVal_succ xs (k + d) (by omega)]; omega
theorem numVal_top {xs : List Int} (h : xs.all digitI = true) (k : Nat) (hk : k ≤ xs.length) : numVal (xs.take k) ≤ numVal xs := by
  have := numVal_mono h (xs.length - k) k (by omega)
  rwa [show k + (xs.length - k) = xs.length by omega, List.take_length] at this

/-- A word that begins with a digit is a number's. -/
def numeralB (xs : List Int) : Bool := xs.all digitI && (xs.length == 1 || xs[0]?.getD 0 != 48)

theorem all_succ {xs : List Int} {k : Nat} (hk : k < xs.length) (h : (xs.take k).all digitI = true) (hd : digitI (xs[k]?.getD 0) = true) : (xs.take (k + 1)).all digitI = true := by
  rw [take_succ_at xs k hk, List.all_append, h]; simp [hd]
theorem all_not {xs : List Int} {k : Nat} (hk : k < xs.length) (hd : digitI (xs[k]?.getD 0) = false) : xs.all digitI = false := by
  rw [List.all_eq_false]
  refine ⟨xs[k]'hk, List.getElem_mem hk, ?_⟩
  simp [hk] at hd
  simp [hd]

set_option maxHeartbeats 1000000 in
theorem rNumeral (s : ByteArray) (w : World) (h0 : 0 < s.size) (hs : s.size ≤ 9223372036854775807) : Calls Tryz.prog 21 #[.string s] w fun e w' => e = .returned (.bool (numeralB (xsOf s))) ∧ w' = w := by
  have HL := hide (xsOf_length s)
  have HX := hide (xsOf_at s)
  obtain ⟨xs, hxs⟩ : ∃ xs, xs = xsOf s := ⟨_, rfl⟩
  rw [← hxs] at HL HX ⊢
  clear hxs
  go_enter Tryz.func21, Tryz.ntmps21
  go_wp2
  go_loop [3] (fun i => ∃ k : Nat, k ≤ s.size ∧ i = .int .i64 (k : Int) ∧ (xs.take k).all digitI = true) (fun i => s.size - (intOf i).toNat)
  case atStart => exact ⟨0, Nat.zero_le _, rfl, rfl⟩
  case round =>
    obtain ⟨k, hkn, rfl, ha⟩ := hrel
    have HA := hide ha
    clear ha
    by_cases hlt : k < s.size
    · have HD := hide (rDigit ((s[k].toNat : Nat) : Int) w)
      have HY := hide (HX.out k hlt)
      obtain ⟨b, hb⟩ : ∃ b, b = digitI ((s[k].toNat : Nat) : Int) := ⟨_, rfl⟩
      rw [← hb] at HD
      have HBB := hide hb
      clear hb
      cases b with
      | true =>
        go_wp2_with (go_at_call 20; refine HD.out.mono ?_; rintro e w' ⟨rfl, hw'⟩; obtain rfl := hw'.symm)
        go_round
        case rel => exact ⟨k + 1, by omega, by go_num, all_succ (by rw [HL.out]; exact hlt) HA.out (by rw [HY.out]; exact HBB.out.symm)⟩
        case measure => simp [intOf]; omega
      | false =>
        go_wp2_with (go_at_call 20; refine HD.out.mono ?_; rintro e w' ⟨rfl, hw'⟩; obtain rfl := hw'.symm)
        go_ret
        rw [numeralB, all_not (k := k) (by rw [HL.out]; exact hlt) (by rw [HY.out]; exact HBB.out.symm)]
        exact ⟨rfl, rfl⟩
    · have hk : k = s.size := by omega
      have HT : Hid (xs.all digitI = true) := by have := HA.out; rwa [List.take_of_length_le (by rw [HL.out]; omega)] at this
      have HY := hide (HX.out 0 h0)
      cases h1 : ((s.size : Int) == 1) with
      | true =>
        have HS1 : Hid ((xs.length == 1) = true) := by rw [Hid, HL.out]; simp at h1 ⊢; omega
        go_wp2
        all_goals go_ret
        all_goals rw [numeralB, HT.out, HS1.out]
        all_goals exact ⟨rfl, rfl⟩
      | false =>
        have HS1 : Hid ((xs.length == 1) = false) := by rw [Hid, HL.out]; simp at h1 ⊢; omega
        cases h2 : (((s[0].toNat : Nat) : Int) != 48) with
        | true =>
          go_wp2
          all_goals go_ret
          all_goals rw [numeralB, HT.out, HS1.out, HY.out, h2]
          all_goals exact ⟨rfl, rfl⟩
        | false =>
          go_wp2
          all_goals go_ret
          all_goals rw [numeralB, HT.out, HS1.out, HY.out, h2]
          all_goals exact ⟨rfl, rfl⟩

def valV (xs : List Int) : Int := if numVal xs ≤ 9223372036854775807 then numVal xs else 0
def valB (xs : List Int) : Bool := decide (numVal xs ≤ 9223372036854775807)
theorem val_yes {xs : List Int} (h : numVal xs ≤ 9223372036854775807) : valV xs = numVal xs ∧ valB xs = true := ⟨if_pos h, decide_eq_true h⟩
theorem val_no {xs : List Int} (h : ¬ numVal xs ≤ 9223372036854775807) : valV xs = 0 ∧ valB xs = false := ⟨if_neg h, decide_eq_false h⟩
set_option maxHeartbeats 1000000 in
theorem rValue (s : ByteArray) (w : World) (hs : s.size ≤ 9223372036854775807) (hd : (xsOf s).all digitI = true) : Calls Tryz.prog 22 #[.string s] w fun e w' => e = .returned (.tuple #[.int .i64 (valV (xsOf s)), .bool (valB (xsOf s))]) ∧ w' = w := by
  have HL := hide (xsOf_length s)
  have HX := hide (xsOf_at s)
  obtain ⟨xs, hxs⟩ : ∃ xs, xs = xsOf s := ⟨_, rfl⟩
  rw [← hxs] at HL HX hd ⊢
  have HD := hide hd
  clear hxs hd
  go_enter Tryz.func22, Tryz.ntmps22
  go_wp2
  go_loop [4, 5] (fun v i => ∃ k : Nat, k ≤ s.size ∧ i = .int .i64 (k : Int) ∧ v = .int .i64 (numVal (xs.take k)) ∧ numVal (xs.take k) ≤ 9223372036854775807) (fun _ i => s.size - (intOf i).toNat)
  case atStart => exact ⟨0, Nat.zero_le _, rfl, rfl, by simp [numVal]⟩
  case round =>
    obtain ⟨k, hkn, rfl, rfl, hle⟩ := hrel
    by_cases hlt : k < s.size
    · have hc := digits_at HD.out k (by rw [HL.out]; exact hlt)
      rw [HX.out k hlt] at hc
      have HS := hide (numVal_succ xs k (by rw [HL.out]; exact hlt))
      rw [HX.out k hlt] at HS
      have hnn := numVal_nn HD.out k (by rw [HL.out]; omega)
      have HTOP := hide (numVal_top HD.out (k + 1) (by rw [HL.out]; omega))
      obtain ⟨v, hv⟩ : ∃ v, v = numVal (xs.take k) := ⟨_, rfl⟩
      rw [← hv] at hle hnn HS ⊢
      obtain ⟨c, hcc⟩ : ∃ c : Int, c = ((s[k].toNat : Nat) : Int) := ⟨_, rfl⟩
      have hcc' := hcc.symm
      rw [hcc'] at hc HS
      have w1 : IntKind.u8.wrap (c - 48) = c - 48 := wrap8_in _ (by omega) (by omega)
      have w2 : IntKind.i64.wrap (c - 48) = c - 48 := wrap_in _ (by omega) (by omega)
      obtain ⟨Q, hQ⟩ : ∃ Q, Q = (9223372036854775807 - (c - 48)) / 10 := ⟨_, rfl⟩
      have hq1 : 10 * Q ≤ 9223372036854775807 - (c - 48) := by omega
      have hq2 : 9223372036854775807 - (c - 48) < 10 * Q + 10 := by omega
      have w3 : IntKind.i64.wrap (9223372036854775807 - (c - 48)) = 9223372036854775807 - (c - 48) := wrap_in _ (by omega) (by omega)
      have w4 : IntKind.i64.wrap ((9223372036854775807 - (c - 48)).tdiv 10) = Q := by
        rw [Int.tdiv_eq_ediv_of_nonneg (by omega), ← hQ]
        exact wrap_in _ (by omega) (by omega)
      have HV := hide hv
      have HC := hide hcc
      clear hv hcc hQ
      by_cases hgt : Q < v
      · go_wp2
        go_ret2
        have h1 := HTOP.out
        rw [HS.out] at h1
        have h2 : ¬ numVal xs ≤ 9223372036854775807 := by omega
        exact ⟨by rw [(val_no h2).1, (val_no h2).2]; rfl, rfl⟩
      · have w5 : IntKind.i64.wrap (v * 10) = v * 10 := wrap_in _ (by omega) (by omega)
        have w6 : IntKind.i64.wrap (v * 10 + (c - 48)) = v * 10 + (c - 48) := wrap_in _ (by omega) (by omega)
        go_wp2
        go_round
        case rel => exact ⟨k + 1, by omega, by go_num, by rw [HS.out], by rw [HS.out]; omega⟩
        case measure => simp [intOf]; omega
    · go_wp2
      go_ret2
      have e : xs.take k = xs := List.take_of_length_le (by rw [HL.out]; omega)
      rw [e] at hle ⊢
      exact ⟨by rw [(val_yes hle).1, (val_yes hle).2]; rfl, rfl⟩
end Go.Proofs.YtadhlnlcdljamaaGreatDoor.V
