/-
  Contracts: adjointref1.Lies, adjointref1.Place.
-/
import Derived.Test.YtfamaaahofjglaaSteps
import Derived.Test.YtfamaaahofjglaaRSize
namespace Go.Proofs.Ytfamaaahofjglaa.V
open Go.RowKit

/-- Where the entry at an index lies: so far, for the first k numbers. -/
def liesS (s : Int) (ss ys : List Int) : Nat → Int
  | 0 => s
  | k + 1 => wrap64 (liesS s ss ys k + wrap64 (ys[k]?.getD 0 * ss[k]?.getD 0))

set_option maxHeartbeats 1000000 in
theorem rlies_any (s : Int) (dv : Value) (sa : Option Addr) (slen scap : Nat) (ss : List Int) (a : Option Addr) (len cap : Nat) (ys : List Int) (w : World) (hs : Ints w sa slen ss) (h : Ints w a len ys) (hle : len ≤ slen) (da : Option Addr) (dl dc : Nat) (hdv : dv = .slice da dl dc) :
    Calls Try.prog 37 #[.agg #[.int .i64 s, dv, .slice sa slen scap], .slice a len cap] w fun e w' => e = .returned (.int .i64 (liesS s ss ys len)) ∧ Below w.heap.size w w' := by
  subst hdv
  have hm := h.2.1
  have hms := hs.2.1
  have H := hide h
  have HS := hide hs
  clear h hs
  go_enter Try.func37, Try.ntmps37
  go_wp2
  go_loop [5, 12] (fun n i => ∃ k : Nat, k ≤ len ∧ i = .int .i64 k ∧ n = .int .i64 (liesS s ss ys k)) (fun _ i => len - (intOf i).toNat)
  case atStart => exact ⟨0, Nat.zero_le _, rfl, rfl⟩
  case round =>
    obtain ⟨k, hk, rfl, rfl⟩ := hrel
    by_cases hlt : k < len
    · obtain ⟨b, off, rfl, hb, hc⟩ := H.out.at (by omega)
      obtain ⟨b', off', rfl, hb', hc'⟩ := HS.out.at (by omega)
      have hck := hc k hlt
      have hck' := hc' k (by omega)
      clear hc hc'
      go_wp2
      go_round
      case rel => exact ⟨k + 1, by omega, by go_num, rfl⟩
      case measure => simp [intOf]; omega
    · go_wp2
      go_ret
      obtain rfl : k = len := by omega
      exact ⟨rfl, (Below.refl _ _).alloc (Nat.le_refl _) _⟩

theorem stepsV_getD {xs : List Int} (hz : (0 : Int) ∉ xs) {k : Nat} (h : k < xs.length) : (stepsV xs)[k]?.getD 0 = beh xs k := by simp [stepsV, h, stepV, hz]
theorem stepsV_length (xs : List Int) : (stepsV xs).length = xs.length := by simp [stepsV]
theorem placeS_bd {xs ys : List Int} (h : IdxOk xs ys) (hb : ∀ x ∈ xs, x ≤ 4096) (hp : prod xs ≤ 65536) : ∀ k, k ≤ xs.length → 0 ≤ placeS xs ys k ∧ placeS xs ys k ≤ 268435456 * k
  | 0, _ => by simp [placeS]
  | k + 1, hk => by
    have ih := placeS_bd h hb hp k (by omega)
    have h1 := h k (by omega)
    have h2 := hb _ (mem_getD xs k (by omega))
    have h3 := prod_drop_le xs (idxOk_pos h) (k + 1)
    have h4 : 0 ≤ ys[k]?.getD 0 * beh xs k := Int.mul_nonneg h1.1 (by unfold beh; omega)
    have h5 : ys[k]?.getD 0 * beh xs k ≤ 4096 * 65536 := Int.mul_le_mul (by omega) (by unfold beh; omega) (by unfold beh; omega) (by omega)
    rw [placeS]; omega
theorem lies_place {xs ys : List Int} (h : IdxOk xs ys) (hb : ∀ x ∈ xs, x ≤ 4096) (hp : prod xs ≤ 65536) (h6 : xs.length ≤ 6) : ∀ k, k ≤ xs.length → liesS 0 (stepsV xs) ys k = placeS xs ys k
  | 0, _ => rfl
  | k + 1, hk => by
    have hz : (0 : Int) ∉ xs := fun e => by have := idxOk_pos h 0 e; omega
    have ih := lies_place h hb hp h6 k (by omega)
    have b1 := placeS_bd h hb hp k (by omega)
    have b2 := placeS_bd h hb hp (k + 1) hk
    have h1 := h k (by omega)
    have h3 := prod_drop_le xs (idxOk_pos h) (k + 1)
    have h4 : 0 ≤ ys[k]?.getD 0 * beh xs k := Int.mul_nonneg h1.1 (by unfold beh; omega)
    rw [liesS, ih, stepsV_getD hz (by omega)]
    rw [placeS] at b2 ⊢
    rw [IntWalk.wrap64_in (ys[k]?.getD 0 * beh xs k) (by omega), IntWalk.wrap64_in _ (by omega)]

end Go.Proofs.Ytfamaaahofjglaa.V
