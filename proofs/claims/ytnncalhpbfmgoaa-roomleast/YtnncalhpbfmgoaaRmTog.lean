/-
  Contract: the law's together.
-/
import Derived.Test.YtnncalhpbfmgoaaRmTogM
namespace Go.Proofs.Ytnncalhpbfmgoaa.V
open Go.RowKit
set_option linter.unusedVariables false

theorem tg_next {p : Nat → Bool} {j : Nat} (h : p j = true) : tgS p (j + 1) = (if (tgS p j).1 < 0 then (j : Int) else (tgS p j).1, (j : Int), (tgS p j).2.2 + 1) := by rw [tgS, if_pos h]
theorem tg_skip {p : Nat → Bool} {j : Nat} (h : p j = false) : tgS p (j + 1) = tgS p j := by rw [tgS, if_neg (by rw [h]; simp)]
theorem inB_at {ab : List Int} {k x : Nat} (h : ¬ x < k) : inB ab k x = decide (x = k) := by
  by_cases e : x = k
  · subst e; simp [inB_self]
  · rw [inB_gt (by omega)]; simp [e]
theorem tog_all {ab : List Int} {o : List Nat} {n : Nat} (hn : ab.length = n) (h : ∀ s, s < n → tgOk (tgP ab o s) o.length = true) : togB ab o = true := by
  unfold togB
  rw [List.all_eq_true]
  intro s hs
  simp at hs
  exact h s (by omega)
theorem tog_no {ab : List Int} {o : List Nat} {n s : Nat} (hn : ab.length = n) (hs : s < n) (h : tgOk (tgP ab o s) o.length = false) : togB ab o = false := by
  unfold togB
  rw [List.all_eq_false]
  exact ⟨s, by simp; omega, by rw [h]; simp⟩
set_option maxHeartbeats 4000000 in
theorem together_any (a : Option Addr) (n cap : Nat) (ab ws : List Int) (b : Option Addr) (len cap' : Nat) (o : List Nat) (w : World) (h : Ints w a n ab) (ho : Ints w b len (cI o)) (hT : TreeOk ab ws) (hlt : ∀ t, t < o.length → atK o t < ab.length) (hlen : len ≤ 4096) :
    Calls Try.prog 21 #[.slice a n cap, .slice b len cap'] w fun e w' => e = .returned (.bool (togB ab o)) ∧ w' = w := by
  have HL := hide h.1
  have hol : o.length = len := by have := ho.1; simpa [cI] using this
  have HOL := hide hol
  have H := hide h
  have HO := hide ho
  have HT := hide hT
  have HLT := hide hlt
  have hn4 : n ≤ 4096 := by have := hT.few; rw [h.1] at this; exact this
  clear h ho hT hlt hol
  go_enter Try.func21, Try.ntmps21
  go_wp2
  go_loop [14] (fun i => ∃ k : Nat, k ≤ n ∧ i = .int .i64 k ∧ ∀ s, s < k → tgOk (tgP ab o s) o.length = true) (fun i => n - (intOf i).toNat)
  case atStart => exact ⟨0, Nat.zero_le _, rfl, fun s hs => by omega⟩
  case round =>
    obtain ⟨k, hk, rfl, hall⟩ := hrel
    have HALL := hide hall
    clear hall
    by_cases hkn : k < n
    · have hkz : (k : Int) < (n : Int) := by omega
      go_wp2
      go_loop [6, 7, 8, 19] (fun f l c i => ∃ j : Nat, j ≤ len ∧ i = .int .i64 j ∧ f = .int .i64 (tgS (tgP ab o k) j).1 ∧ l = .int .i64 (tgS (tgP ab o k) j).2.1 ∧ c = .int .i64 (tgS (tgP ab o k) j).2.2) (fun _ _ _ i => len - (intOf i).toNat)
      case atStart => exact ⟨0, Nat.zero_le _, rfl, rfl, rfl, rfl⟩
      case round =>
        obtain ⟨j, hj, rfl, rfl, rfl, rfl⟩ := hrel
        have hbd := tg_bd (tgP ab o k) j
        by_cases hjl : j < len
        · obtain ⟨b1, o1, rfl, zb1, c1⟩ := HO.out.at (show 0 < len by omega)
          have q1 := c1 j hjl
          rw [cI_get o j (by rw [HOL.out]; exact hjl)] at q1
          obtain ⟨y, hy⟩ : ∃ y, y = atK o j := ⟨_, rfl⟩
          have q2 : w.cell? ⟨b1, o1 + j, none⟩ = some (.int .i64 (y : Int)) := by rw [hy]; exact q1
          have hyn : y < n := by rw [hy, ← HL.out]; exact HLT.out j (by rw [HOL.out]; exact hjl)
          have HP : Hid (tgP ab o k j = inB ab k y) := by rw [hy]; exact rfl
          have hjz : (j : Int) < (len : Int) := by omega
          obtain ⟨F, hF⟩ : ∃ F, F = (tgS (tgP ab o k) j).1 := ⟨_, rfl⟩
          obtain ⟨L, hL⟩ : ∃ L, L = (tgS (tgP ab o k) j).2.1 := ⟨_, rfl⟩
          obtain ⟨C, hC⟩ : ∃ C, C = (tgS (tgP ab o k) j).2.2 := ⟨_, rfl⟩
          rw [← hF, ← hL, ← hC] at hbd ⊢
          have HF := hide hF
          have HLL := hide hL
          have HC := hide hC
          obtain ⟨b2, o2, rfl, zb2, c2⟩ := H.out.at (show 0 < n by omega)
          have HC2 := hide c2
          clear c1 q1 hy hF hL hC c2
          go_wp2
          go_loop [11] (fun u => ∃ x : Nat, x < n ∧ u = .int .i64 x ∧ inB ab k x = inB ab k y) (fun u => n - (intOf u).toNat)
          case atStart => exact ⟨y, hyn, rfl, rfl⟩
          case round =>
            obtain ⟨x, hx, rfl, hin⟩ := hrel
            have HIN := hide hin
            clear hin
            have hx0 : (0 : Int) ≤ (x : Int) := by omega
            have hxn : (x : Int) < (n : Int) := by omega
            by_cases hxk : x < k
            · have hxz : (x : Int) < (k : Int) := by omega
              have q3 := HC2.out x hx
              have hp := par_of HT.out (x := x) (by have := HL.out; omega)
              have e3 : ab[x]?.getD 0 = (par ab x : Int) := hp.1
              rw [e3] at q3
              have hpn : par ab x < n := by rw [← HL.out]; exact hp.2.2
              have hpx : x < par ab x := hp.2.1
              have HI2 : Hid (inB ab k (par ab x) = inB ab k y) := by rw [Hid, ← HIN.out, inB_step HT.out hxk (by rw [HL.out]; exact hkn)]
              obtain ⟨z, hz⟩ : ∃ z, z = par ab x := ⟨_, rfl⟩
              rw [← hz] at q3 hpn hpx HI2
              clear hz e3 hp
              go_wp2
              go_round
              case rel => exact ⟨z, hpn, rfl, HI2.out⟩
              case measure => simp [intOf]; omega
            · have hxz : ¬ (x : Int) < (k : Int) := by omega
              have hat := inB_at (ab := ab) hxk
              by_cases hxe : x = k
              · have hE : ((x : Int) == (k : Int)) = true := by simp [hxe]
                have HPJ : Hid (tgP ab o k j = true) := by rw [Hid, HP.out, ← HIN.out, hat]; simp [hxe]
                clear hat hxe
                by_cases hf : F < 0
                · go_wp2
                  go_round
                  case rel => exact ⟨j + 1, by omega, by go_num, by rw [tg_next HPJ.out, ← HF.out, if_pos hf], by rw [tg_next HPJ.out], by rw [tg_next HPJ.out, ← HC.out]⟩
                  case measure => simp [intOf]; omega
                · go_wp2
                  go_round
                  case rel => exact ⟨j + 1, by omega, by go_num, by rw [tg_next HPJ.out, ← HF.out, if_neg hf], by rw [tg_next HPJ.out], by rw [tg_next HPJ.out, ← HC.out]⟩
                  case measure => simp [intOf]; omega
              · have hE : ((x : Int) == (k : Int)) = false := by simp; omega
                have HPJ : Hid (tgP ab o k j = false) := by rw [Hid, HP.out, ← HIN.out, hat]; simp [hxe]
                clear hat
                go_wp2
                go_round
                case rel => exact ⟨j + 1, by omega, by go_num, by rw [tg_skip HPJ.out, ← HF.out], by rw [tg_skip HPJ.out, ← HLL.out], by rw [tg_skip HPJ.out, ← HC.out]⟩
                case measure => simp [intOf]; omega
        · obtain rfl : j = len := by omega
          have hjz : ¬ (j : Int) < (j : Int) := by omega
          obtain ⟨F, hF⟩ : ∃ F, F = (tgS (tgP ab o k) j).1 := ⟨_, rfl⟩
          obtain ⟨L, hL⟩ : ∃ L, L = (tgS (tgP ab o k) j).2.1 := ⟨_, rfl⟩
          obtain ⟨C, hC⟩ : ∃ C, C = (tgS (tgP ab o k) j).2.2 := ⟨_, rfl⟩
          have HOK : Hid (tgOk (tgP ab o k) o.length = decide (L - F + 1 = C)) := by rw [Hid, tgOk, HOL.out, ← hF, ← hL, ← hC]
          rw [← hF, ← hL, ← hC] at hbd ⊢
          have hw1 : IntKind.i64.wrap (L - F) = L - F := by rw [IntKind.wrap_i64]; omega
          have hw2 : IntKind.i64.wrap (L - F + 1) = L - F + 1 := by rw [IntKind.wrap_i64]; omega
          clear hF hL hC
          by_cases he : L - F + 1 = C
          · have HOK2 : Hid (tgOk (tgP ab o k) o.length = true) := by rw [Hid, HOK.out]; simp [he]
            have hE : (L - F + 1 != C) = false := by simp [he]
            clear he
            go_wp2
            go_round
            case rel =>
              refine ⟨k + 1, by omega, by go_num, fun s hs => ?_⟩
              by_cases e : s = k
              · rw [e]; exact HOK2.out
              · exact HALL.out s (by omega)
            case measure => simp [intOf]; omega
          · have HOK2 : Hid (tgOk (tgP ab o k) o.length = false) := by rw [Hid, HOK.out]; simp [he]
            have hE : (L - F + 1 != C) = true := by simp [he]
            go_wp2
            go_ret
            exact ⟨by rw [tog_no HL.out hkn HOK2.out]; rfl, rfl⟩
    · have hkz : ¬ (k : Int) < (n : Int) := by omega
      go_wp2
      go_ret
      exact ⟨by rw [tog_all HL.out fun s hs => HALL.out s (by omega)]; rfl, rfl⟩
end Go.Proofs.Ytnncalhpbfmgoaa.V
