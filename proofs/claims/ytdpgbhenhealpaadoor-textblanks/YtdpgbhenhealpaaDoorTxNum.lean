/-
  Contracts: adjointref3.numeral, adjointref3.Value.
-/
import Derived.Test.YtdpgbhenhealpaaDoorTxReach
namespace Go.Proofs.YtdpgbhenhealpaaDoor.V
set_option maxRecDepth 20000
open Go.RowKit

theorem wrap_in (x : Int) (h1 : -9223372036854775808 ≤ x) (h2 : x ≤ 9223372036854775807) : IntKind.i64.wrap x = x := by
  have b1 : IntKind.i64.bits = 64 := rfl
  have b2 : IntKind.i64.signed = true := rfl
  unfold IntKind.wrap
  simp [b1, b2]
  omega
theorem wrap8_in (x : Int) (h1 : 0 ≤ x) (h2 : x ≤ 255) : IntKind.u8.wrap x = x := by
  have b1 : IntKind.u8.bits = 8 := rfl
  have b2 : IntKind.u8.signed = false := rfl
  unfold IntKind.wrap
  simp [b1, b2]
  omega
/-- The bytes of a text. -/
def xsOf (s : ByteArray) : List Int := s.data.toList.map fun b : UInt8 => (b.toNat : Int)
theorem xsOf_length (s : ByteArray) : (xsOf s).length = s.size := by simp [xsOf]
theorem xsOf_at (s : ByteArray) (k : Nat) (h : k < s.size) : (xsOf s)[k]?.getD 0 = ((s[k]'h).toNat : Int) := by
  have h' : k < s.data.size := h
  have e : s.data.toList[k]? = some (s.data[k]'h') := by simp
  show ((s.data.toList.map fun b : UInt8 => (b.toNat : Int))[k]?).getD 0 = (((s.data[k]'h').toNat : Nat) : Int)
  rw [List.getElem?_map, e]; rfl
theorem xsOf_bd (s : ByteArray) : ∀ x ∈ xsOf s, 0 ≤ x ∧ x ≤ 255 := by
  intro x hx
  simp only [xsOf, List.mem_map] at hx
  obtain ⟨b, _, rfl⟩ := hx
  have := b.toNat_lt
  omega
theorem take_succ_at (xs : List Int) (k : Nat) (h : k < xs.length) : xs.take (k + 1) = xs.take k ++ [xs[k]?.getD 0] := by
  rw [List.take_add_one, List.getElem?_eq_getElem h]; rfl
/-- What digits spell. -/
def numVal (xs : List Int) : Int := xs.foldl (fun a c => a * 10 + (c - 48)) 0
theorem numVal_snoc (xs : List Int) (c : Int) : numVal (xs ++ [c]) = numVal xs * 10 + (c - 48) := by simp [numVal]
theorem numVal_succ (xs : List Int) (k : Nat) (h : k < xs.length) : numVal (xs.take (k + 1)) = numVal (xs.take k) * 10 + (xs[k]?.getD 0 - 48) := by rw [take_succ_at xs k h, numVal_snoc]
theorem digit_bd {c : Int} (h : digitI c = true) : 48 ≤ c ∧ c ≤ 57 := by simpa [digitI] using h
theorem digits_at {xs : List Int} (h : xs.all digitI = true) (k : Nat) (hk : k < xs.length) : 48 ≤ xs[k]?.getD 0 ∧ xs[k]?.getD 0 ≤ 57 := by
  rw [List.all_eq_true] at h
  have := h (xs[k]'hk) (List.getElem_mem hk)
  simp [hk]
  exact digit_bd this
theorem numVal_nn {xs : List Int} (h : xs.all digitI = true) : ∀ k, k ≤ xs.length → 0 ≤ numVal (xs.take k)
  | 0, _ => by simp [numVal]
  | k + 1, hk => by
    have h1 := numVal_nn h k (by omega)
    have h2 := digits_at h k (by omega)
    rw [numVal_succ xs k (by omega)]; omega
theorem numVal_mono {xs : List Int} (h : xs.all digitI = true) : ∀ d k, k + d ≤ xs.length → numVal (xs.take k) ≤ numVal (xs.take (k + d))
  | 0, k, _ => Int.le_refl _
  | d + 1, k, hk => by
    have h1 := numVal_mono h d k (by omega)
    have h2 := digits_at h (k + d) (by omega)
    have h3 := numVal_nn h (k + d) (by omega)
    have e : k + (d + 1) = (k + d) + 1 := by omega
    rw [e, numVal_succ xs (k + d) (by omega)]; omega
theorem numVal_top {xs : List Int} (h : xs.all digitI = true) (k : Nat) (hk : k ≤ xs.length) : numVal (xs.take k) ≤ numVal xs := by
  have := numVal_mono h (xs.length - k) k (by omega)
  rwa [show k + (xs.length - k) = xs.length by omega, List.take_length] at this

/-- A word that begins with a digit is a number's. -/
def numeralB (xs : List Int) : Bool := xs.all digitI && (xs.length == 1 || xs[0]?.getD 0 != 48)

theorem all_succ {xs : List Int} {k : Nat} (hk : k < xs.length) (h : (xs.take k).all digitI = true) (hd : digitI (xs[k]?.getD 0) = true) : (xs.take (k + 1)).all digitI = true := by
  rw [take_succ_at xs k hk, List.all_append, h]; simp [hd]
theorem all_not {xs : List Int} {k : Nat} (hk : k < xs.length) (hd : digitI (xs[k]?.getD 0) = false) : xs.all digitI = false := by
  rw [List.all_eq_false]
  refine ⟨xs[k]'hk, List.getElem_mem hk, ?_⟩
  simp [hk] at hd
  simp [hd]

def valV (xs : List Int) : Int := if numVal xs ≤ 9223372036854775807 then numVal xs else 0
def valB (xs : List Int) : Bool := decide (numVal xs ≤ 9223372036854775807)
theorem val_yes {xs : List Int} (h : numVal xs ≤ 9223372036854775807) : valV xs = numVal xs ∧ valB xs = true := ⟨if_pos h, decide_eq_true h⟩
theorem val_no {xs : List Int} (h : ¬ numVal xs ≤ 9223372036854775807) : valV xs = 0 ∧ valB xs = false := ⟨if_neg h, decide_eq_false h⟩
end Go.Proofs.YtdpgbhenhealpaaDoor.V
