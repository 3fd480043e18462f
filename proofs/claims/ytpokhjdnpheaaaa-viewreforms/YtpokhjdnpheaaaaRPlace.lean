/-
  Contracts: adjointref1.Lies, adjointref1.Place.
-/
import Derived.Test.YtpokhjdnpheaaaaSteps
import Derived.Test.YtpokhjdnpheaaaaRSize
namespace Go.Proofs.Ytpokhjdnpheaaaa.V
open Go.RowKit

/-- Where the entry at an index lies: so far, for the first k numbers. -/
def liesS (s : Int) (ss ys : List Int) : Nat → Int
  | 0 => s
  | k + 1 => wrap64 (liesS s ss ys k + wrap64 (ys[k]?.getD 0 * ss[k]?.getD 0))

set_option maxHeartbeats 1000000 in
theorem rlies_any (s : Int) (dv : Value) (sa : Option Addr) (slen scap : Nat) (ss : List Int) (a : Option Addr) (len cap : Nat) (ys : List Int) (w : World) (hs : Ints w sa slen ss) (h : Ints w a len ys) (hle : len ≤ slen) (da : Option Addr) (dl dc : Nat) (hdv : dv = .slice da dl dc) :
    Calls Try.prog 38 #[.agg #[.int .i64 s, dv, .slice sa slen scap], .slice a len cap] w fun e w' => e = .returned (.int .i64 (liesS s ss ys len)) ∧ Below w.heap.size w w' := by
  subst hdv
  have hm := h.2.1
  have hms := hs.2.1
  have H := hide h
  have HS := hide hs
  clear h hs
  go_enter Try.func38, Try.ntmps38
  go_wp2
  go_loop [5, 12] (fun n i => ∃ k : Nat, k ≤ len ∧ i = .int .i64 k ∧ n = .int .i64 (liesS s ss ys k)) (fun _ i => len - (intOf i).toNat)
  case atStart => exact ⟨0, Nat.zero_le _, rfl, rfl⟩
  case round =>
    obtain ⟨k, hk, rfl, rfl⟩ := hrel
    by_cases hlt : k < len
    · obtain ⟨b, off, rfl, hb, hc⟩ := H.out.at (by omega)
      obtain ⟨b', off', rfl, hb', hc'⟩ := HS.out.at (by omega)
      have hck := hc k hlt
      have hck' := hc' k (by omega)
      clear hc hc'
      go_wp2
      go_round
      case rel => exact ⟨k + 1, by omega, by go_num, rfl⟩
      case measure => simp [intOf]; omega
    · go_wp2
      go_ret
      obtain rfl : k = len := by omega
      exact ⟨rfl, (Below.refl _ _).alloc (Nat.le_refl _) _⟩

theorem stepsV_getD {xs : List Int} (hz : (0 : Int) ∉ xs) {k : Nat} (h : k < xs.length) : (stepsV xs)[k]?.getD 0 = beh xs k := by simp [stepsV, h, stepV, hz]
theorem stepsV_length (xs : List Int) : (stepsV xs).length = xs.length := by simp [stepsV]
theorem placeS_bd {xs ys : List Int} (h : IdxOk xs ys) (hb : ∀ x ∈ xs, x ≤ 4096) (hp : prod xs ≤ 65536) : ∀ k, k ≤ xs.length → 0 ≤ placeS xs ys k ∧ placeS xs ys k ≤ 268435456 * k
  | 0, _ => by simp [placeS]
  | k + 1, hk => by
    have ih := placeS_bd h hb hp k (by omega)
    have h1 := h k (by omega)
    have h2 := hb _ (mem_getD xs k (by omega))
    have h3 := prod_drop_le xs (idxOk_pos h) (k + 1)
    have h4 : 0 ≤ ys[k]?.getD 0 * beh xs k := Int.mul_nonneg h1.1 (by unfold beh; omega)
    have h5 : ys[k]?.getD 0 * beh xs k ≤ 4096 * 65536 := Int.mul_le_mul (by omega) (by unfold beh; omega) (by unfold beh; omega) (by omega)
    rw [placeS]; omega
theorem lies_place {xs ys : List Int} (h : IdxOk xs ys) (hb : ∀ x ∈ xs, x ≤ 4096) (hp : prod xs ≤ 65536) (h6 : xs.length ≤ 6) : ∀ k, k ≤ xs.length → liesS 0 (stepsV xs) ys k = placeS xs ys k
  | 0, _ => rfl
  | k + 1, hk => by
    have hz : (0 : Int) ∉ xs := fun e => by have := idxOk_pos h 0 e; omega
    have ih := lies_place h hb hp h6 k (by omega)
    have b1 := placeS_bd h hb hp k (by omega)
    have b2 := placeS_bd h hb hp (k + 1) hk
    have h1 := h k (by omega)
    have h3 := prod_drop_le xs (idxOk_pos h) (k + 1)
    have h4 : 0 ≤ ys[k]?.getD 0 * beh xs k := Int.mul_nonneg h1.1 (by unfold beh; omega)
    rw [liesS, ih, stepsV_getD hz (by omega)]
    rw [placeS] at b2 ⊢
    rw [IntWalk.wrap64_in (ys[k]?.getD 0 * beh xs k) (by omega), IntWalk.wrap64_in _ (by omega)]

set_option maxHeartbeats 2000000 in
theorem rplace_any (a : Option Addr) (len cap : Nat) (xs : List Int) (a' : Option Addr) (len' cap' : Nat) (ys : List Int) (w : World) (h : Ints w a len xs) (h' : Ints w a' len' ys) (hcap : len ≤ cap) :
    Calls Try.prog 12 #[.slice a len cap, .slice a' len' cap'] w fun e w' => e = .returned (.tuple #[.int .i64 (placeN xs ys), .int .i64 (placeE xs ys)]) ∧ Below w.heap.size w w' := by
  have hl := h.1
  have hm := h.2.1
  have hl' := h'.1
  have hm' := h'.2.1
  by_cases hE : sizeE xs ≠ 0
  · have e1 : placeN xs ys = 0 := by simp [placeN, hE]
    have e2 : placeE xs ys = sizeE xs := by simp [placeE, hE]
    rw [e1, e2]
    have H := hide h
    have hE1 : (sizeE xs != 0) = true := by simp [hE]
    clear h hE e1 e2 hl hl' h'
    go_enter Try.func12, Try.ntmps12
    go_wp2_with (go_at_call 10; refine (rsize_any _ _ _ xs _ H.out).mono ?_; rintro e w' ⟨rfl, rfl⟩)
    go_ret2
    exact ⟨rfl, Below.refl _ _⟩
  replace hE : sizeE xs = 0 := by simpa using hE
  by_cases hn : len' ≠ len
  · have e1 : placeN xs ys = 0 := by simp [placeN, hl, hl', hn]
    have e2 : placeE xs ys = 6 := by simp [placeE, hE, hl, hl', hn]
    rw [e1, e2]
    have H := hide h
    have HE := hide hE
    have hn1 : ((len' : Int) != (len : Int)) = true := by simp; omega
    clear h hE e1 e2 hl hl' h' hn
    go_enter Try.func12, Try.ntmps12
    go_wp2_with (go_at_call 10; refine (rsize_any _ _ _ xs _ H.out).mono ?_; rintro e w' ⟨rfl, rfl⟩; rw [HE.out])
    go_ret2
    exact ⟨rfl, Below.refl _ _⟩
  obtain rfl : len' = len := by omega
  obtain ⟨z1, z2, z3, z4⟩ := sizeE_ok hE
  have P1 : Hid (IdxOk xs ys → placeN xs ys = placeS xs ys len' ∧ placeE xs ys = 0) := fun hI => by
    have hB := (idxB_iff xs ys).2 hI
    exact ⟨by simp [placeN, hE, hB, hl, hl'], by simp [placeE, hE, hB, hl, hl']⟩
  have P2 : Hid (¬ IdxOk xs ys → placeN xs ys = 0 ∧ placeE xs ys = 4) := fun hI => by
    have hB := idxB_no hI
    exact ⟨by simp [placeN, hB], by simp [placeE, hE, hB, hl, hl']⟩
  have H := hide h
  have H' := hide h'
  have HE := hide hE
  have HL := hide hl
  have hlen : len' ≤ 6 := by omega
  have HZ2 := hide z2
  have HZ3 := hide z3
  clear h h' hE hl hl' hn z1 z2 z3 z4
  go_enter Try.func12, Try.ntmps12
  go_wp2_with (go_at_call 10; refine (rsize_any _ _ _ xs _ H.out).mono ?_; rintro e w' ⟨rfl, hw'⟩; obtain rfl := hw'.symm; rw [HE.out])
  go_loop [25] (fun i => ∃ k : Nat, k ≤ len' ∧ i = .int .i64 k ∧ ∀ j, j < k → 0 ≤ ys[j]?.getD 0 ∧ ys[j]?.getD 0 < xs[j]?.getD 0) (fun i => len' - (intOf i).toNat)
  case atStart => exact ⟨0, Nat.zero_le _, rfl, fun j hj => by omega⟩
  case round =>
    obtain ⟨k, hk, rfl, hall⟩ := hrel
    have HALL := hide hall
    clear hall
    by_cases hlt : k < len'
    · obtain ⟨b, off, rfl, hb, hc⟩ := H.out.at (by omega)
      obtain ⟨b', off', rfl, hb', hc'⟩ := H'.out.at (by omega)
      have hck := hc k hlt
      have hck' := hc' k hlt
      clear hc hc'
      by_cases q1 : ys[k]?.getD 0 < 0
      · go_wp2
        go_ret2
        have hI : ¬ IdxOk xs ys := fun hI => by have := hI k (by rw [HL.out]; exact hlt); omega
        rw [(P2.out hI).1, (P2.out hI).2]
        exact ⟨rfl, Below.refl _ _⟩
      by_cases q2 : xs[k]?.getD 0 ≤ ys[k]?.getD 0
      · go_wp2
        go_ret2
        have hI : ¬ IdxOk xs ys := fun hI => by have := hI k (by rw [HL.out]; exact hlt); omega
        rw [(P2.out hI).1, (P2.out hI).2]
        exact ⟨rfl, Below.refl _ _⟩
      go_wp2
      go_round
      case rel => exact ⟨k + 1, by omega, by go_num, fun j hj => by by_cases e : j = k; (subst e; omega); exact HALL.out j (by omega)⟩
      case measure => simp [intOf]; omega
    · have hI : IdxOk xs ys := fun j hj => HALL.out j (by rw [HL.out] at hj; omega)
      have hpos := idxOk_pos hI
      have hp := (HZ3.out hpos).1
      have HLP : Hid (liesS 0 (stepsV xs) ys len' = placeS xs ys len') := lies_place hI (fun x hx => (HZ2.out x hx).2) hp (by rw [HL.out]; exact hlen) len' (by rw [HL.out]; omega)
      have HII := hide hI
      clear hI hpos hp
      go_wp2_with fail
      refine (rsteps_any _ _ _ xs _ H.out hcap hlen HZ2.out).mono ?_
      rintro e w1 ⟨⟨g, c, rfl, hgc, hi⟩, hb1⟩
      have HI1 := hide hi
      have HB1 := hide hb1
      clear hi hb1
      go_wp2_with fail
      refine (rlies_any 0 _ _ _ _ (stepsV xs) _ _ _ ys _ HI1.out (H'.out.below HB1.out) (Nat.le_refl _) _ _ _ rfl).mono ?_
      rintro e w2 ⟨rfl, hb2⟩
      rw [HLP.out]
      have HB2 := hide (HB1.out.trans (hb2.mono HB1.out.size))
      clear hb2
      go_wp2
      go_ret2
      rw [(P1.out HII.out).1, (P1.out HII.out).2]
      exact ⟨rfl, HB2.out⟩
end Go.Proofs.Ytpokhjdnpheaaaa.V
