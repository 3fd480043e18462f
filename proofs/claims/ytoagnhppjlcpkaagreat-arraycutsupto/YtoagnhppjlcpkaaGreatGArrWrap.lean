/-
  Sums and products that wrap round; array.count of anything.
-/
import Derived.Test.YtoagnhppjlcpkaaGreatGArrSeen
import Derived.Test.YtoagnhppjlcpkaaGreatGRReads
import Derived.Test.YtoagnhppjlcpkaaGreatGArrWork
namespace Go.Proofs.YtoagnhppjlcpkaaGreat.V
set_option maxRecDepth 20000
open Go.RowKit

theorem w64 (n : Int) : wrap64 n = IntKind.i64.wrap n := by
  simp only [wrap64, IntKind.wrap, IntKind.bits, IntKind.signed]
  simp
  split <;> omega
theorem wrap_bd (n : Int) : -9223372036854775808 ≤ IntKind.i64.wrap n ∧ IntKind.i64.wrap n ≤ 9223372036854775807 := by
  simp only [IntKind.wrap, IntKind.bits, IntKind.signed]
  simp
  split <;> omega
theorem wrap_off (n : Int) : ∃ q : Int, IntKind.i64.wrap n = n + q * 18446744073709551616 := by
  simp only [IntKind.wrap, IntKind.bits, IntKind.signed]
  simp
  split
  · exact ⟨-(n / 18446744073709551616) - 1, by omega⟩
  · exact ⟨-(n / 18446744073709551616), by omega⟩
theorem wrap_plus (n q : Int) : IntKind.i64.wrap (n + q * 18446744073709551616) = IntKind.i64.wrap n := by
  simp only [IntKind.wrap, IntKind.bits, IntKind.signed]
  simp only [show ((2 : Int) ^ (64 : Nat)) = 18446744073709551616 from rfl, Int.add_mul_emod_self_right]
theorem wrap_addl (a b : Int) : IntKind.i64.wrap (IntKind.i64.wrap a + b) = IntKind.i64.wrap (a + b) := by
  obtain ⟨q, hq⟩ := wrap_off a
  rw [hq, show a + q * 18446744073709551616 + b = a + b + q * 18446744073709551616 by omega, wrap_plus]
theorem wrap_addr (a b : Int) : IntKind.i64.wrap (a + IntKind.i64.wrap b) = IntKind.i64.wrap (a + b) := by
  rw [Int.add_comm, wrap_addl, Int.add_comm]
theorem wrap_mull (a b : Int) : IntKind.i64.wrap (IntKind.i64.wrap a * b) = IntKind.i64.wrap (a * b) := by
  obtain ⟨q, hq⟩ := wrap_off a
  rw [hq, Int.add_mul, show q * 18446744073709551616 * b = (q * b) * 18446744073709551616 by rw [Int.mul_assoc, Int.mul_comm _ b, ← Int.mul_assoc], wrap_plus]
theorem wrap_mulr (a b : Int) : IntKind.i64.wrap (a * IntKind.i64.wrap b) = IntKind.i64.wrap (a * b) := by
  rw [Int.mul_comm, wrap_mull, Int.mul_comm]
theorem wrap_wrap (a : Int) : IntKind.i64.wrap (IntKind.i64.wrap a) = IntKind.i64.wrap a := by
  have := wrap_addl a 0
  simpa using this

set_option maxHeartbeats 1000000 in
theorem count_wrap (a : Option Addr) (len cap : Nat) (xs : List Int) (w : World) (h : Ints w a len xs) :
    Calls Tryz.prog 18 #[.slice a len cap] w fun e w' => e = .returned (.int .i64 (IntKind.i64.wrap (prod xs))) ∧ w' = w := by
  have HL := hide h.1
  have hm := h.2.1
  have H := hide h
  clear h
  go_enter Tryz.func18, Tryz.ntmps18
  go_wp2
  go_loop [3, 8] (fun s i => ∃ (k : Nat) (P : Int), k ≤ len ∧ i = .int .i64 k ∧ s = .int .i64 P ∧ P = IntKind.i64.wrap (prod (xs.take k))) (fun _ i => len - (intOf i).toNat)
  case atStart => exact ⟨0, 1, Nat.zero_le _, rfl, rfl, by simp [prod]; decide⟩
  case round =>
    obtain ⟨k, P, hk, rfl, rfl, hP⟩ := hrel
    have HPP := hide hP
    clear hP
    by_cases hlt : k < len
    · obtain ⟨b, off, rfl, hb, hc⟩ := H.out.at (by omega)
      have hck := hc k hlt
      have hkl : k < xs.length := by rw [HL.out]; exact hlt
      have HP1 : Hid (prod (xs.take (k + 1)) = prod (xs.take k) * xs[k]?.getD 0) := prod_take_succ xs k hkl
      clear hkl
      obtain ⟨X, hX⟩ : ∃ X, X = xs[k]?.getD 0 := ⟨_, rfl⟩
      rw [← hX] at hck HP1
      clear hX hc
      go_wp2
      go_round
      case rel => exact ⟨k + 1, _, by omega, by go_num, rfl, by rw [HP1.out, HPP.out, w64, wrap_mull]⟩
      case measure => simp [intOf]; omega
    · go_wp2
      go_ret
      rw [HPP.out, take_all HL.out hlt]
      exact ⟨rfl, rfl⟩

/-- All sizes, and something for each. -/
def tot (J : Int) : List (List Int) → Int
  | [] => 0
  | d :: r => prod d + J + tot J r
theorem tot_take_succ (J : Int) : ∀ (xss : List (List Int)) (j : Nat), j < xss.length → tot J (xss.take (j + 1)) = tot J (xss.take j) + (prod (xss[j]?.getD []) + J)
  | [], j, h => by simp at h
  | x :: r, 0, _ => by simp [tot]
  | x :: r, j + 1, h => by
    have := tot_take_succ J r j (by simpa using h)
    rw [List.take_succ_cons, List.take_succ_cons, tot, tot, this]
    simp
    omega
theorem tot_each (J : Int) : ∀ xss : List (List Int), tot J xss = tot 0 xss + J * xss.length
  | [] => by simp [tot]
  | x :: r => by
    rw [tot, tot, tot_each J r, List.length_cons, show ((r.length + 1 : Nat) : Int) = (r.length : Int) + 1 by simp, Int.mul_add, Int.mul_one]
    omega
end Go.Proofs.YtoagnhppjlcpkaaGreat.V

/-
  Products of matrices of numbers that wrap round.
-/
namespace Go.Proofs.YtoagnhppjlcpkaaGreat.V
set_option maxRecDepth 20000
open Go.RowKit

def sumN (f : Nat → Int) : Nat → Int
  | 0 => 0
  | k + 1 => sumN f k + f k
theorem sumN_ext {f g : Nat → Int} : ∀ k, (∀ j, j < k → f j = g j) → sumN f k = sumN g k
  | 0, _ => rfl
  | k + 1, h => by rw [sumN, sumN, sumN_ext k (fun j hj => h j (by omega)), h k (by omega)]
theorem sumN_add (f g : Nat → Int) : ∀ k, sumN (fun j => f j + g j) k = sumN f k + sumN g k
  | 0 => rfl
  | k + 1 => by rw [sumN, sumN, sumN, sumN_add f g k]; omega
theorem sumN_zero : ∀ k, sumN (fun _ => 0) k = 0
  | 0 => rfl
  | k + 1 => by rw [sumN, sumN_zero k]; rfl
theorem sumN_mulr (f : Nat → Int) (c : Int) : ∀ k, sumN f k * c = sumN (fun j => f j * c) k
  | 0 => by simp [sumN]
  | k + 1 => by rw [sumN, sumN, Int.add_mul, sumN_mulr f c k]
theorem sumN_mull (f : Nat → Int) (c : Int) : ∀ k, c * sumN f k = sumN (fun j => c * f j) k
  | 0 => by simp [sumN]
  | k + 1 => by rw [sumN, sumN, Int.mul_add, sumN_mull f c k]
/-- Sums in either order. -/
theorem sumN_swap (f : Nat → Nat → Int) (m : Nat) : ∀ k, sumN (fun j => sumN (fun i => f i j) m) k = sumN (fun i => sumN (fun j => f i j) k) m
  | 0 => by simp only [sumN]; rw [sumN_zero]
  | k + 1 => by
    rw [sumN, sumN_swap f m k, ← sumN_add]
    exact sumN_ext m (fun j _ => by rw [sumN])
theorem wrap_sum {f g : Nat → Int} : ∀ k, (∀ j, j < k → IntKind.i64.wrap (f j) = IntKind.i64.wrap (g j)) → IntKind.i64.wrap (sumN f k) = IntKind.i64.wrap (sumN g k)
  | 0, _ => rfl
  | k + 1, h => by
    rw [sumN, sumN, ← wrap_addl, wrap_sum k (fun j hj => h j (by omega)), wrap_addl, ← wrap_addr, h k (by omega), wrap_addr]
theorem innS_sum (xs ys : List Int) : ∀ k, innS xs ys k = IntKind.i64.wrap (sumN (fun j => xs[j]?.getD 0 * ys[j]?.getD 0) k)
  | 0 => by simp [innS, sumN, wrap_in]
  | k + 1 => by rw [innS, innS_sum xs ys k, w64, w64, wrap_addl, wrap_addr, sumN]

/-- The product of two matrices. -/
def matL (xs ys : List Int) (p q r : Nat) : List Int := (List.range (p * r)).map fun i => IntKind.i64.wrap (sumN (fun k => xs[i / r * q + k]?.getD 0 * ys[k * r + i % r]?.getD 0) q)
/-- A matrix turned over. -/
def turnL (xs : List Int) (p q : Nat) : List Int := (List.range (q * p)).map fun i => xs[i % p * q + i / p]?.getD 0
theorem matL_at (xs ys : List Int) (p q r i : Nat) (h : i < p * r) : (matL xs ys p q r)[i]?.getD 0 = IntKind.i64.wrap (sumN (fun k => xs[i / r * q + k]?.getD 0 * ys[k * r + i % r]?.getD 0) q) := by simp [matL, h]
theorem turnL_at (xs : List Int) (p q i : Nat) (h : i < q * p) : (turnL xs p q)[i]?.getD 0 = xs[i % p * q + i / p]?.getD 0 := by simp [turnL, h]
theorem matL_length (xs ys : List Int) (p q r : Nat) : (matL xs ys p q r).length = p * r := by simp [matL]
theorem turnL_length (xs : List Int) (p q : Nat) : (turnL xs p q).length = q * p := by simp [turnL]
theorem matL_bd (xs ys : List Int) (p q r : Nat) : ∀ y ∈ matL xs ys p q r, -9223372036854775808 ≤ y ∧ y ≤ 9223372036854775807 := by
  intro y hy
  simp only [matL, List.mem_map] at hy
  obtain ⟨i, _, rfl⟩ := hy
  exact wrap_bd _
theorem turnL_bd {xs : List Int} (hb : ∀ x ∈ xs, -9223372036854775808 ≤ x ∧ x ≤ 9223372036854775807) (p q : Nat) : ∀ y ∈ turnL xs p q, -9223372036854775808 ≤ y ∧ y ≤ 9223372036854775807 := by
  intro y hy
  simp only [turnL, List.mem_map] at hy
  obtain ⟨i, _, rfl⟩ := hy
  by_cases h : i % p * q + i / p < xs.length
  · rw [List.getElem?_eq_getElem h]; exact hb _ (List.getElem_mem h)
  · simp [List.getElem?_eq_none (Nat.le_of_not_lt h)]

theorem pos_of_lt_mul {i a b : Nat} (h : i < a * b) : 0 < a ∧ 0 < b := by
  refine ⟨Nat.pos_of_ne_zero (fun e => ?_), Nat.pos_of_ne_zero (fun e => ?_)⟩
  · rw [e, Nat.zero_mul] at h; omega
  · rw [e, Nat.mul_zero] at h; omega
theorem row_div (i j r : Nat) (h : j < r) : (i * r + j) / r = i := by
  rw [Nat.mul_comm, Nat.mul_add_div (by omega), Nat.div_eq_of_lt h]; omega
theorem row_mod (i j r : Nat) (h : j < r) : (i * r + j) % r = j := by
  rw [Nat.mul_comm, Nat.mul_add_mod, Nat.mod_eq_of_lt h]
theorem row_lt {i j r p : Nat} (hi : i < p) (h : j < r) : i * r + j < p * r := by
  have : (i + 1) * r ≤ p * r := Nat.mul_le_mul_right _ hi
  rw [Nat.add_mul, Nat.one_mul] at this
  omega
theorem div_row {i p r : Nat} (h : i < p * r) : i / r < p := (Nat.div_lt_iff_lt_mul (pos_of_lt_mul h).2).2 h

/-- Turned products change places. -/
theorem mat_turn (xs ys : List Int) (p q r : Nat) : turnL (matL xs ys p q r) p r = matL (turnL ys q r) (turnL xs p q) r q p := by
  unfold turnL matL
  refine List.map_congr_left (fun i hi => ?_)
  have hi' : i < r * p := by simpa using hi
  obtain ⟨hr, hp⟩ := pos_of_lt_mul hi'
  have h1 : i / p < r := div_row hi'
  have h2 : i % p < p := Nat.mod_lt _ hp
  have e := matL_at xs ys p q r (i % p * r + i / p) (row_lt h2 h1)
  unfold matL at e
  rw [e, row_div _ _ _ h1, row_mod _ _ _ h1]
  congr 1
  refine sumN_ext q (fun k hk => ?_)
  have e1 := turnL_at ys q r (i / p * q + k) (row_lt h1 hk)
  have e2 := turnL_at xs p q (k * p + i % p) (row_lt hk h2)
  unfold turnL at e1 e2
  rw [e1, e2, row_mod _ _ _ hk, row_div _ _ _ hk, row_mod _ _ _ h2, row_div _ _ _ h2, Int.mul_comm]

/-- Products can be put together in either way. -/
theorem mat_assoc (xs ys zs : List Int) (p q r s : Nat) : matL (matL xs ys p q r) zs p r s = matL xs (matL ys zs q r s) p q s := by
  have hL : ∀ i, i < p * s → IntKind.i64.wrap (sumN (fun l => (matL xs ys p q r)[i / s * r + l]?.getD 0 * zs[l * s + i % s]?.getD 0) r) = IntKind.i64.wrap (sumN (fun k => xs[i / s * q + k]?.getD 0 * (matL ys zs q r s)[k * s + i % s]?.getD 0) q) := by
    intro i hi
    obtain ⟨hp, hs⟩ := pos_of_lt_mul hi
    have h1 : i / s < p := div_row hi
    have h2 : i % s < s := Nat.mod_lt _ hs
    rw [wrap_sum (g := fun l => sumN (fun k => xs[i / s * q + k]?.getD 0 * ys[k * r + l]?.getD 0 * zs[l * s + i % s]?.getD 0) q) r (fun l hl => ?_), wrap_sum (g := fun k => sumN (fun l => xs[i / s * q + k]?.getD 0 * ys[k * r + l]?.getD 0 * zs[l * s + i % s]?.getD 0) r) q (fun k hk => ?_)]
    · rw [sumN_swap (fun k l => xs[i / s * q + k]?.getD 0 * ys[k * r + l]?.getD 0 * zs[l * s + i % s]?.getD 0) q r]
    · rw [matL_at ys zs q r s (k * s + i % s) (row_lt hk h2), row_div _ _ _ h2, row_mod _ _ _ h2, wrap_mulr, sumN_mull]
      congr 1
      exact sumN_ext r (fun l _ => by rw [Int.mul_assoc])
    · rw [matL_at xs ys p q r (i / s * r + l) (row_lt h1 hl), row_div _ _ _ hl, row_mod _ _ _ hl, wrap_mull, sumN_mulr]
  show (List.range (p * s)).map _ = (List.range (p * s)).map _
  exact List.map_congr_left (fun i hi => hL i (by simpa using hi))

/-- What a view of two dimensions reads. -/
theorem reads2 (d0 d1 : Nat) (s0 s1 : Int) (m : Nat) (h : m < d0 * d1) : (readsV 0 [(d0 : Int), (d1 : Int)] [s0, s1])[m]?.getD 0 = (m / d1 : Nat) * s0 + (m % d1 : Nat) * s1 := by
  have hp : prod [(d0 : Int), (d1 : Int)] = ((d0 * d1 : Nat) : Int) := by simp [prod]
  rw [readsV_getD _ _ _ _ (by rw [hp]; omega)]
  simp only [lieN, prod, Int.mul_one, Int.ediv_one]
  simp
theorem reads2_len (d0 d1 : Nat) (s0 s1 : Int) : (readsV 0 [(d0 : Int), (d1 : Int)] [s0, s1]).length = d0 * d1 := by
  have hp : prod [(d0 : Int), (d1 : Int)] = ((d0 * d1 : Nat) : Int) := by simp [prod]
  rw [readsV_length, hp, Int.toNat_natCast]
end Go.Proofs.YtoagnhppjlcpkaaGreat.V

/-
  Arrays of numbers that wrap round are a ring.
-/
namespace Go.Proofs.YtoagnhppjlcpkaaGreat.V
set_option maxRecDepth 20000
open Go.RowKit

theorem twoL_ext {n : Nat} {f g : Nat → Int} (h : ∀ i, i < n → f i = g i) : (List.range n).map f = (List.range n).map g := List.map_congr_left (fun i hi => h i (by simpa using hi))
theorem twoV_comm {k : Int} (hk : k = 3 ∨ k = 5) (a b : Int) : twoV k a b = twoV k b a := by
  rcases hk with rfl | rfl
  · simp [twoV, Int.add_comm]
  · simp [twoV, Int.mul_comm]
theorem twoL_comm {k : Int} (hk : k = 3 ∨ k = 5) (xs ys : List Int) (n : Nat) : twoL k xs ys n = twoL k ys xs n := twoL_ext (fun _ _ => twoV_comm hk _ _)
theorem twoV_assoc {k : Int} (hk : k = 3 ∨ k = 5) (a b c : Int) : twoV k (twoV k a b) c = twoV k a (twoV k b c) := by
  rcases hk with rfl | rfl
  · simp only [twoV, if_true, w64, wrap_addl, wrap_addr, Int.add_assoc]
  · simp [twoV, w64, wrap_mull, wrap_mulr, Int.mul_assoc]
theorem twoL_assoc {k : Int} (hk : k = 3 ∨ k = 5) (xs ys zs : List Int) (n : Nat) : twoL k (twoL k xs ys n) zs n = twoL k xs (twoL k ys zs n) n := twoL_ext (fun i hi => by
  rw [twoL_at _ _ _ _ _ hi, twoL_at _ _ _ _ _ hi]; exact twoV_assoc hk _ _ _)
theorem twoV_dist (a b c : Int) : twoV 5 a (twoV 3 b c) = twoV 3 (twoV 5 a b) (twoV 5 a c) := by
  simp [twoV, w64, wrap_mulr, wrap_addl, wrap_addr, Int.mul_add]
theorem twoL_dist (xs ys zs : List Int) (n : Nat) : twoL 5 xs (twoL 3 ys zs n) n = twoL 3 (twoL 5 xs ys n) (twoL 5 xs zs n) n := twoL_ext (fun i hi => by
  rw [twoL_at _ _ _ _ _ hi, twoL_at _ _ _ _ _ hi, twoL_at _ _ _ _ _ hi]; exact twoV_dist _ _ _)
theorem twoL_back (xs ys : List Int) (n : Nat) (hl : xs.length = n) (hb : ∀ x ∈ xs, -9223372036854775808 ≤ x ∧ x ≤ 9223372036854775807) : twoL 3 (twoL 4 xs ys n) ys n = xs := by
  apply List.ext_getElem?
  intro i
  by_cases hi : i < n
  · have h1 : (twoL 3 (twoL 4 xs ys n) ys n)[i]?.getD 0 = xs[i]?.getD 0 := by
      rw [twoL_at _ _ _ _ _ hi, twoL_at _ _ _ _ _ hi]
      have hx := hb _ (mem_getD xs i (by omega))
      simp only [twoV, if_true, if_neg (show ¬ ((4 : Int) = 3) by decide), w64, wrap_addl]
      rw [show xs[i]?.getD 0 - ys[i]?.getD 0 + ys[i]?.getD 0 = xs[i]?.getD 0 by omega, wrap_in _ hx.1 hx.2]
    have l1 : i < (twoL 3 (twoL 4 xs ys n) ys n).length := by rw [twoL_length]; exact hi
    have l2 : i < xs.length := by omega
    rw [List.getElem?_eq_getElem l1, List.getElem?_eq_getElem l2] at h1 ⊢
    simpa using h1
  · rw [List.getElem?_eq_none (by rw [twoL_length]; omega), List.getElem?_eq_none (by omega)]
end Go.Proofs.YtoagnhppjlcpkaaGreat.V
