/-
  Contract: adjointref1.Size.
-/
import Derived.Test.YtfamaaahofjglaaSize
namespace Go.Proofs.Ytfamaaahofjglaa.V
open Go.RowKit

theorem any_take_succ {p : Int → Bool} (xs : List Int) (k : Nat) (h : k < xs.length) : (xs.take (k + 1)).any p = ((xs.take k).any p || p (xs[k]?.getD 0)) := by
  rw [take_succ_getD xs k h, List.any_append]; simp

set_option maxHeartbeats 1000000 in
theorem rsize_any (a : Option Addr) (len cap : Nat) (xs : List Int) (w : World) (h : Ints w a len xs) :
    Calls Try.prog 32 #[.slice a len cap] w fun e w' => e = .returned (.tuple #[.int .i64 (sizeN xs), .int .i64 (sizeE xs)]) ∧ w' = w := by
  have hl := h.1
  have hm := h.2.1
  have H : Hid (Ints w a len xs) := h
  clear h
  by_cases c1 : 6 < len
  · have e1 : sizeN xs = 0 := by simp [sizeN, hl, c1]
    have e2 : sizeE xs = 3 := by simp [sizeE, hl, c1]
    rw [e1, e2]
    clear hl e1 e2
    go_enter Try.func32, Try.ntmps32
    go_wp2
    go_ret2
    exact ⟨rfl, rfl⟩
  have c1' : len ≤ 6 := by omega
  have E1 : Hid (sizeN xs = if xs.any badDim = true then 0 else if (0 : Int) ∈ xs then 0 else if 65536 < prod xs then 0 else prod xs) := by simp only [Hid, sizeN, hl, if_neg c1]
  have E2 : Hid (sizeE xs = if xs.any badDim = true then 4 else if (0 : Int) ∈ xs then 0 else if 65536 < prod xs then 5 else 0) := by simp only [Hid, sizeE, hl, if_neg c1]
  have HL := hide hl
  clear hl c1
  go_enter Try.func32, Try.ntmps32
  go_wp2
  go_loop [4, 15] (fun s i => ∃ k : Nat, k ≤ len ∧ i = .int .i64 k ∧ s = .bool ((xs.take k).any (fun x => (0 : Int) == x)) ∧ (xs.take k).any badDim = false) (fun _ i => len - (intOf i).toNat)
  case atStart => exact ⟨0, Nat.zero_le _, rfl, by simp, by simp⟩
  case round =>
    obtain ⟨k, hk, rfl, rfl, hp⟩ := hrel
    have HP := hide hp
    clear hp
    by_cases hlt : k < len
    · obtain ⟨b, off, rfl, hb, hc⟩ := H.out.at (by omega)
      have hck := hc k hlt
      have HKL : Hid (k < xs.length) := by rw [Hid, HL.out]; exact hlt
      clear hc
      by_cases q1 : xs[k]?.getD 0 < 0
      · go_wp2
        go_ret2
        have := any_of_getD (p := badDim) xs k HKL.out (by simp [badDim, q1])
        rw [E1.out, E2.out, if_pos this, if_pos this]
        exact ⟨rfl, rfl⟩
      by_cases q2 : 4096 < xs[k]?.getD 0
      · go_wp2
        go_ret2
        have := any_of_getD (p := badDim) xs k HKL.out (by simp [badDim, q2])
        rw [E1.out, E2.out, if_pos this, if_pos this]
        exact ⟨rfl, rfl⟩
      have HB : Hid ((xs.take (k + 1)).any badDim = false) := by
        rw [Hid, any_take_succ xs k HKL.out, HP.out]; simp [badDim]; omega
      by_cases q3 : xs[k]?.getD 0 = 0
      · have Q3 : Hid ((xs.take (k + 1)).any (fun x => (0 : Int) == x) = true) := by rw [Hid, any_take_succ xs k HKL.out, q3]; simp
        have q4 : (xs[k]?.getD 0 == 0) = true := by simp [q3]
        clear q3
        go_wp2
        go_round
        case rel => exact ⟨k + 1, by omega, by go_num, by rw [Q3.out], HB.out⟩
        case measure => simp [intOf]; omega
      · have q4 : (xs[k]?.getD 0 == 0) = false := by simp [q3]
        have Q3 : Hid ((xs.take (k + 1)).any (fun x => (0 : Int) == x) = (xs.take k).any (fun x => (0 : Int) == x)) := by
          rw [Hid, any_take_succ xs k HKL.out]
          have : ((0 : Int) == xs[k]?.getD 0) = false := by simp; omega
          rw [this]; simp
        clear q3
        go_wp2
        go_round
        case rel => exact ⟨k + 1, by omega, by go_num, by rw [Q3.out], HB.out⟩
        case measure => simp [intOf]; omega
    · have e := take_all HL.out hlt
      have HP' := HP.out
      rw [e, any_zero] 
      rw [e] at HP'
      clear HP
      have HP := hide HP'
      have E1' : Hid (sizeN xs = if (0 : Int) ∈ xs then 0 else if 65536 < prod xs then 0 else prod xs) := by rw [Hid, E1.out, if_neg (by simp [HP'])]
      have E2' : Hid (sizeE xs = if (0 : Int) ∈ xs then 0 else if 65536 < prod xs then 5 else 0) := by rw [Hid, E2.out, if_neg (by simp [HP'])]
      clear HP' e E1 E2
      by_cases c3 : (0 : Int) ∈ xs
      · have d3 : decide ((0 : Int) ∈ xs) = true := by simp [c3]
        rw [d3]
        have E1 : Hid (sizeN xs = 0) := by rw [Hid, E1'.out, if_pos c3]
        have E2 : Hid (sizeE xs = 0) := by rw [Hid, E2'.out, if_pos c3]
        clear c3 d3 E1' E2'
        go_wp2
        go_ret2
        rw [E1.out, E2.out]
        exact ⟨rfl, rfl⟩
      · have d3 : decide ((0 : Int) ∈ xs) = false := by simp [c3]
        rw [d3]
        have HG := hide (good_dims HP.out c3)
        have E1 : Hid (sizeN xs = if 65536 < prod xs then 0 else prod xs) := by rw [Hid, E1'.out, if_neg c3]
        have E2 : Hid (sizeE xs = if 65536 < prod xs then 5 else 0) := by rw [Hid, E2'.out, if_neg c3]
        clear c3 d3 E1' E2'
        go_wp2
        go_loop [7, 31] (fun s i => ∃ k : Nat, k ≤ len ∧ i = .int .i64 k ∧ s = .int .i64 (prod (xs.take k)) ∧ prod (xs.take k) ≤ 65536) (fun _ i => len - (intOf i).toNat)
        case atStart => exact ⟨0, Nat.zero_le _, rfl, by simp [prod], by simp [prod]⟩
        case round =>
          clear hlt hk
          obtain ⟨m, hmk, rfl, rfl, hp⟩ := hrel
          by_cases hlt : m < len
          · obtain ⟨b, off, rfl, hb, hc⟩ := H.out.at (by omega)
            have hck := hc m hlt
            have hkl : m < xs.length := by rw [HL.out]; exact hlt
            have hd := HG.out _ (mem_getD xs m hkl)
            have HP : Hid (prod (xs.take (m + 1)) = prod (xs.take m) * xs[m]?.getD 0) := prod_take_succ xs m hkl
            have h0 := prod_pos (xs.take m) (fun y hy => (HG.out y (List.mem_of_mem_take hy)).1)
            have h1 : 1 ≤ prod (xs.take m) * xs[m]?.getD 0 := by rw [← HP.out]; exact prod_pos _ (fun y hy => (HG.out y (List.mem_of_mem_take hy)).1)
            have h2 : prod (xs.take m) * xs[m]?.getD 0 ≤ 65536 * 4096 := Int.mul_le_mul hp hd.2 (by omega) (by omega)
            clear hc hkl
            by_cases hq : 65536 < prod (xs.take m) * xs[m]?.getD 0
            · go_wp2
              go_ret2
              have : 65536 < prod xs := by have := prod_take_le xs (fun y hy => (HG.out y hy).1) (m + 1); rw [HP.out] at this; omega
              rw [E1.out, E2.out, if_pos this, if_pos this]
              exact ⟨rfl, rfl⟩
            · go_wp2
              go_round
              case rel => exact ⟨m + 1, by omega, by go_num, by rw [HP.out], by rw [HP.out]; omega⟩
              case measure => simp [intOf]; omega
          · go_wp2
            go_ret2
            have e := take_all HL.out hlt
            rw [e] at hp ⊢
            rw [E1.out, E2.out, if_neg (by omega), if_neg (by omega)]
            exact ⟨rfl, rfl⟩
end Go.Proofs.Ytfamaaahofjglaa.V
