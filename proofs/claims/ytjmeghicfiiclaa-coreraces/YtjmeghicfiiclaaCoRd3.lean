/-
  The document: Before.
-/
import Derived.Test.YtjmeghicfiiclaaCoRd2
import Derived.Deep.DeepCutAuto
import Derived.Deep.QuietTactic
namespace Go.Proofs.Ytjmeghicfiiclaa.V
open Go Go.RowKit Go.Proofs
set_option linter.unusedVariables false

theorem below_dr (w : World) (n : Nat) : Below w.heap.size w (w.drewN n) := ⟨rfl, rfl, rfl, Nat.le_refl _, fun _ _ => rfl⟩
theorem waitsTo_len (l : List In) (s : Int) : ∀ j, waitsTo l s j ≤ j
  | 0 => Nat.le_refl _
  | j + 1 => by
    have := waitsTo_len l s j
    rw [waitsTo]
    split <;> omega
/-- The n-th post (from 1), or the end. -/
def pstV (l : List In) (s : Int) (n j : Nat) : Int := ((postsTo l s j)[n]?).getD (l.length : Int)
theorem pstV_no (l : List In) (s : Int) (n j : Nat) (h : postB (getI l j) s = false) : pstV l s n (j + 1) = pstV l s n j ∧ (postsTo l s (j + 1)).length = (postsTo l s j).length := by
  unfold pstV
  rw [postsTo, if_neg (by rw [h]; simp), List.append_nil]
  exact ⟨rfl, rfl⟩
theorem pstV_yes (l : List In) (s : Int) (n j : Nat) (h : postB (getI l j) s = true) : (postsTo l s (j + 1)).length = (postsTo l s j).length + 1 ∧ ((postsTo l s j).length = n → pstV l s n (j + 1) = (j : Int) + 1) ∧ ((postsTo l s j).length ≠ n → pstV l s n (j + 1) = pstV l s n j) := by
  unfold pstV
  rw [postsTo, if_pos h]
  refine ⟨by simp, fun e => ?_, fun e => ?_⟩
  · rw [List.getElem?_append_right (by omega), e]; simp
  · rcases Nat.lt_or_ge n (postsTo l s j).length with h1 | h1
    · rw [List.getElem?_append_left h1]
    · rw [List.getElem?_append_right h1, List.getElem?_eq_none h1, List.getElem?_eq_none (by simp; omega)]
theorem pstV_bd (l : List In) (s : Int) (n j : Nat) (hj : j ≤ l.length) : 0 ≤ pstV l s n j ∧ pstV l s n j ≤ (l.length : Int) := by
  unfold pstV
  cases h : (postsTo l s j)[n]? with
  | none => simp
  | some v =>
    have := postsTo_bd l s j v (List.mem_of_getElem? h)
    simp only [Option.getD_some]
    omega
set_option maxRecDepth 100000 in
set_option maxHeartbeats 8000000 in
theorem rBefore_any (a : Option Addr) (len cap : Nat) (own : List In) (i : Nat) (a2 : Option Addr) (n cap2 : Nat) (others : List In) (w : World) (h1 : Inss w a len own) (h2 : Inss w a2 n others) (hl : len ≤ 262144) (hn : n ≤ 262144) (hi : i < len) :
    Calls Try.prog 9 #[.slice a len cap, .int .i64 (i : Int), .slice a2 n cap2] w fun r w' => r = .returned (.int .i64 (fenTo own others (i + 1))) ∧ Below w.heap.size w w' := by
  have HO := hide h1
  have HT := hide h2
  obtain ⟨b, off, rfl, hin⟩ := h1.2.2.resolve_left (by omega)
  have HIN := hide hin
  clear h1 h2 hin
  go_enter Try.func9, Try.ntmps9
  go_wp2_with fail
  go_loopw [7, 8] (fun v7 v8 wr => ∃ k : Nat, k ≤ i + 1 ∧ v8 = .int .i64 k ∧ v7 = .int .i64 (fenTo own others k) ∧ Below w.heap.size w wr) (fun v7 v8 _ => i + 1 - (intOf v8).toNat)
  case atStart => exact ⟨0, by omega, rfl, rfl, Below.refl _ _⟩
  case round =>
    obtain ⟨k, hk, rfl, rfl, hbr⟩ := hrel
    by_cases hki : k ≤ i
    · have hkz : (k : Int) ≤ (i : Int) := by omega
      have hkl : (k : Int) < (len : Int) := by omega
      obtain ⟨o0, o1, -, -, -, -⟩ := (HIN.out k (by omega)).below hbr
      obtain ⟨x, hx⟩ : ∃ x, x = own[k]?.getD inD := ⟨_, rfl⟩
      have hgx : getI own k = x := by rw [hx]; rfl
      rw [← hx] at o0 o1
      have zo := lt_of_cell o0
      simp only at zo
      obtain ⟨F, hF⟩ : ∃ F, F = fenTo own others k := ⟨_, rfl⟩
      have hFb := fenTo_bd own others k
      rw [← hF] at hFb ⊢
      have HGX := hide hgx
      have HF := hide hF
      have HFB := hide hFb
      have HBR := hide hbr
      clear hx hgx hF hFb hbr
      by_cases h4 : x.d = 4
      · have q4 : (x.d != 4) = false := by simpa using h4
        have HWK : Hid (waitB x x.a = true) := by rw [Hid]; simp [waitB, h4]
        have H4 := hide h4
        clear h4
        go_wp2_with fail
        go_loopw [9, 10] (fun v9 v10 wv => ∃ j : Nat, j ≤ k + 1 ∧ v10 = .int .i64 j ∧ v9 = .int .i64 ((waitsTo own x.a j : Nat) : Int) ∧ Below w.heap.size w wv) (fun v9 v10 _ => k + 1 - (intOf v10).toNat)
        case atStart => exact ⟨0, by omega, rfl, rfl, HBR.out⟩
        case round =>
          clear o0 o1 zo HBR
          obtain ⟨j, hj, rfl, rfl, hbr⟩ := hrel
          obtain ⟨o0, o1, -, -, -, -⟩ := (HIN.out k (by omega)).below hbr
          rw [show own[k]?.getD inD = x from HGX.out] at o0 o1
          have zo := lt_of_cell o0
          simp only at zo
          have hNb := waitsTo_len own x.a j
          by_cases hjk : j ≤ k
          · have hjz : (j : Int) ≤ (k : Int) := by omega
            have hjl : (j : Int) < (len : Int) := by omega
            obtain ⟨y0, y1, -, -, -, -⟩ := (HIN.out j (by omega)).below hbr
            obtain ⟨y, hy⟩ : ∃ y, y = own[j]?.getD inD := ⟨_, rfl⟩
            have hwn : waitsTo own x.a (j + 1) = waitsTo own x.a j + (if waitB y x.a = true then 1 else 0) := by rw [hy]; rfl
            rw [← hy] at y0 y1
            have zy := lt_of_cell y0
            simp only at zy
            obtain ⟨N, hN⟩ : ∃ N, N = waitsTo own x.a j := ⟨_, rfl⟩
            rw [← hN] at hwn hNb ⊢
            obtain ⟨b1, hb1⟩ : ∃ b1, b1 = waitB y x.a := ⟨_, rfl⟩
            rw [← hb1] at hwn
            have HWN := hide hwn
            have HB1 := hide hb1
            have HBV := hide hbr
            clear hy hN hwn hb1 hbr
            go_upto_region 10 with fail
            go_cut [47] (fun c wx => c = .bool b1 ∧ Below wr.heap.size wr wx)
            case first =>
              by_cases e1 : y.d = 4
              · have q1 : (y.d == 4) = true := by simpa using e1
                by_cases e2 : y.a = x.a
                · have q2 : (y.a == x.a) = true := by simpa using e2
                  have hv : Hid (b1 = true) := by rw [Hid, HB1.out]; simp [waitB, e1, e2]
                  clear e1 e2
                  go_quiet (fail)
                  go_wp2
                  go_meet
                  exact ⟨by rw [hv.out], below_dr _ _⟩
                · have q2 : (y.a == x.a) = false := by simpa using e2
                  have hv : Hid (b1 = false) := by rw [Hid, HB1.out]; simp [waitB, e2]
                  clear e1 e2
                  go_quiet (fail)
                  go_wp2
                  go_meet
                  exact ⟨by rw [hv.out], below_dr _ _⟩
              · have q1 : (y.d == 4) = false := by simpa using e1
                have hv : Hid (b1 = false) := by rw [Hid, HB1.out]; simp [waitB, e1]
                clear e1
                go_quiet (fail)
                go_wp2
                go_meet
                exact ⟨by rw [hv.out], below_dr _ _⟩
            case rest =>
              obtain ⟨rfl, hbc⟩ := hcut
              have HBC := hide (bl_on HBV.out hbc)
              clear hbc o0 o1 y0 y1 zo zy
              cases b1
              · have HNN : Hid (N = waitsTo own x.a (j + 1)) := by rw [Hid, HWN.out]; simp
                go_wp2_with fail
                go_roundw
                case rel => exact ⟨j + 1, by omega, by go_num, by rw [← HNN.out], HBC.out⟩
                case measure => simp [intOf]; omega
              · have HNN : Hid (N + 1 = waitsTo own x.a (j + 1)) := by rw [Hid, HWN.out]; simp
                go_wp2_with fail
                go_roundw
                case rel => exact ⟨j + 1, by omega, by go_num, by rw [← HNN.out]; go_num, HBC.out⟩
                case measure => simp [intOf]; omega
          · have hjz : ¬ (j : Int) ≤ (k : Int) := by omega
            obtain rfl : j = k + 1 := by omega
            have hN1 : waitsTo own x.a (k + 1) = waitsTo own x.a k + 1 := by rw [waitsTo, HGX.out, HWK.out]; simp
            have hat : atV own others k = pstV others x.a (waitsTo own x.a k) others.length := by unfold atV pstV; rw [HGX.out]
            rw [hN1] at hNb ⊢
            obtain ⟨N, hN⟩ : ∃ N, N = waitsTo own x.a k := ⟨_, rfl⟩
            rw [← hN] at hat hNb ⊢
            have HAT := hide hat
            have HBV := hide hbr
            have HLN := hide HT.out.1
            clear hN hN1 hat hbr hj
            go_wp2_with fail
            go_loopw [9, 11, 12] (fun v9 v11 v12 wu => ∃ j : Nat, j ≤ n ∧ v12 = .int .i64 j ∧ v9 = .int .i64 (((N + 1 : Nat) : Int) - ((postsTo others x.a j).length : Int)) ∧ v11 = .int .i64 (pstV others x.a N j) ∧ Below w.heap.size w wu) (fun v9 v11 v12 _ => n - (intOf v12).toNat)
            case atStart => exact ⟨0, by omega, rfl, by simp [postsTo], by simp [pstV, postsTo, HLN.out], HBV.out⟩
            case round =>
              clear o0 o1 zo HBV
              obtain ⟨j, hj, rfl, rfl, rfl, hbr⟩ := hrel
              obtain ⟨o0, o1, -, -, -, -⟩ := (HIN.out k (by omega)).below hbr
              rw [show own[k]?.getD inD = x from HGX.out] at o0 o1
              have zo := lt_of_cell o0
              simp only at zo
              have hLb := postsTo_len others x.a j
              have hAb := pstV_bd others x.a N j (by rw [HLN.out]; exact hj)
              rw [HLN.out] at hAb
              by_cases hjn : j < n
              · have hjz : (j : Int) < (n : Int) := by omega
                obtain ⟨bb, oo, ha2, hin2⟩ := HT.out.2.2.resolve_left (by omega)
                obtain ⟨y0, y1, -, -, -, -⟩ := (hin2 j hjn).below hbr
                obtain ⟨y, hy⟩ : ∃ y, y = others[j]?.getD inD := ⟨_, rfl⟩
                rw [← hy] at y0 y1
                have zy := lt_of_cell y0
                simp only at zy
                obtain ⟨b1, hb1⟩ : ∃ b1, b1 = postB y x.a := ⟨_, rfl⟩
                have HNO : Hid (b1 = false → pstV others x.a N (j + 1) = pstV others x.a N j ∧ (postsTo others x.a (j + 1)).length = (postsTo others x.a j).length) := fun h => pstV_no others x.a N j (by rw [show getI others j = y from hy.symm ▸ rfl, ← hb1, h])
                have HYE : Hid (b1 = true → (postsTo others x.a (j + 1)).length = (postsTo others x.a j).length + 1 ∧ ((postsTo others x.a j).length = N → pstV others x.a N (j + 1) = (j : Int) + 1) ∧ ((postsTo others x.a j).length ≠ N → pstV others x.a N (j + 1) = pstV others x.a N j)) := fun h => pstV_yes others x.a N j (by rw [show getI others j = y from hy.symm ▸ rfl, ← hb1, h])
                obtain ⟨L, hL⟩ : ∃ L, L = (postsTo others x.a j).length := ⟨_, rfl⟩
                obtain ⟨A, hA⟩ : ∃ A, A = pstV others x.a N j := ⟨_, rfl⟩
                simp only [← hL, ← hA] at HNO HYE hLb hAb ⊢
                have HB1 := hide hb1
                have HBV := hide hbr
                subst ha2
                clear hy hL hA hb1 hbr hin2
                go_upto_region 16 with fail
                go_cut [76] (fun c wx => c = .bool b1 ∧ Below wr.heap.size wr wx)
                case first =>
                  by_cases e1 : y.d = 3
                  · have q1 : (y.d == 3) = true := by simpa using e1
                    by_cases e2 : y.a = x.a
                    · have q2 : (y.a == x.a) = true := by simpa using e2
                      have hv : Hid (b1 = true) := by rw [Hid, HB1.out]; simp [postB, e1, e2]
                      clear e1 e2
                      go_quiet (fail)
                      go_wp2
                      go_meet
                      exact ⟨by rw [hv.out], below_dr _ _⟩
                    · have q2 : (y.a == x.a) = false := by simpa using e2
                      have hv : Hid (b1 = false) := by rw [Hid, HB1.out]; simp [postB, e2]
                      clear e1 e2
                      go_quiet (fail)
                      go_wp2
                      go_meet
                      exact ⟨by rw [hv.out], below_dr _ _⟩
                  · have q1 : (y.d == 3) = false := by simpa using e1
                    have hv : Hid (b1 = false) := by rw [Hid, HB1.out]; simp [postB, e1]
                    clear e1
                    go_quiet (fail)
                    go_wp2
                    go_meet
                    exact ⟨by rw [hv.out], below_dr _ _⟩
                case rest =>
                  obtain ⟨rfl, hbc⟩ := hcut
                  have HBC := hide (bl_on HBV.out hbc)
                  clear hbc o0 o1 y0 y1 zo zy
                  cases b1
                  · obtain ⟨e1, e2⟩ := HNO.out rfl
                    have HE1 := hide e1
                    have HE2 := hide e2
                    clear e1 e2 HNO HYE
                    go_wp2_with fail
                    go_roundw
                    case rel => exact ⟨j + 1, by omega, by go_num, by rw [HE2.out], by rw [HE1.out], HBC.out⟩
                    case measure => simp [intOf]; omega
                  · obtain ⟨e1, e2, e3⟩ := HYE.out rfl
                    have HE1 := hide e1
                    have hw1 : IntKind.i64.wrap (((N + 1 : Nat) : Int) - (L : Int) - 1) = (N : Int) - (L : Int) := by rw [IntKind.wrap_i64]; omega
                    by_cases hz : L = N
                    · have HE2 := hide (e2 hz)
                      have hz0 : ((N : Int) - (L : Int) == 0) = true := by simp; omega
                      have HZ := hide hz
                      clear e1 e2 e3 hz HNO HYE
                      go_wp2_with fail
                      go_roundw
                      case rel => exact ⟨j + 1, by omega, by go_num, by rw [HE1.out]; congr 1; omega, by rw [HE2.out]; try go_num, HBC.out⟩
                      case measure => simp [intOf]; omega
                    · have HE2 := hide (e3 hz)
                      have hz0 : ((N : Int) - (L : Int) == 0) = false := by simp; omega
                      have HZ := hide hz
                      clear e1 e2 e3 hz HNO HYE
                      go_wp2_with fail
                      go_roundw
                      case rel => exact ⟨j + 1, by omega, by go_num, by rw [HE1.out]; congr 1; omega, by rw [HE2.out], HBC.out⟩
                      case measure => simp [intOf]; omega
              · have hjz : ¬ (j : Int) < (n : Int) := by omega
                obtain rfl : j = n := by omega
                have HBV := hide hbr
                have HFN : Hid (fenTo own others (k + 1) = max F (pstV others x.a N j)) := by
                  rw [Hid, fenTo, if_pos (by rw [HGX.out]; exact H4.out), HAT.out, HLN.out, ← HF.out]
                obtain ⟨A, hA⟩ : ∃ A, A = pstV others x.a N j := ⟨_, rfl⟩
                simp only [← hA] at HFN hAb ⊢
                clear hA hbr o0 o1 zo
                by_cases hlt : F < A
                · have HE : Hid (A = fenTo own others (k + 1)) := by have := HFN.out; rw [Hid]; omega
                  go_wp2_with fail
                  go_roundw
                  case rel => exact ⟨k + 1, by omega, by go_num, by rw [← HE.out], HBV.out⟩
                  case measure => simp [intOf]; omega
                · have HE : Hid (F = fenTo own others (k + 1)) := by have := HFN.out; rw [Hid]; omega
                  go_wp2_with fail
                  go_roundw
                  case rel => exact ⟨k + 1, by omega, by go_num, by rw [← HE.out], HBV.out⟩
                  case measure => simp [intOf]; omega
      · have q4 : (x.d != 4) = true := by simpa using h4
        have HFN : Hid (F = fenTo own others (k + 1)) := by rw [Hid, fenTo, if_neg (by rw [HGX.out]; exact h4)]; exact HF.out
        clear h4
        go_wp2_with fail
        go_roundw
        case rel => exact ⟨k + 1, by omega, by go_num, by rw [← HFN.out], HBR.out⟩
        case measure => simp [intOf]; omega
    · have hkz : ¬ (k : Int) ≤ (i : Int) := by omega
      obtain rfl : k = i + 1 := by omega
      have HBR := hide hbr
      clear hbr
      go_wp2_with fail
      go_ret
      exact ⟨rfl, HBR.out⟩
end Go.Proofs.Ytjmeghicfiiclaa.V
