/-
  The law RoomLeast.
-/
import Derived.Test.YtnncalhpbfmgoaaRmAlive
import Derived.Test.YtnncalhpbfmgoaaRmTog
namespace Go.Proofs.Ytnncalhpbfmgoaa.V
open Go Go.Shelf Go.RowKit Go.Lib Go.Sort Go.Proofs
set_option linter.unusedVariables false

def sameTo (ws : List Int) : Nat → Bool
  | 0 => true
  | k + 1 => sameTo ws k && decide (nth ws k = nth ws 0)
theorem same_all (ws : List Int) : ∀ k, sameTo ws k = true → ∀ x, x < k → nth ws x = nth ws 0
  | 0, _, x, hx => by omega
  | k + 1, h, x, hx => by
    simp only [sameTo, Bool.and_eq_true, decide_eq_true_eq] at h
    by_cases e : x = k
    · rw [e]; exact h.2
    · exact same_all ws k h.1 x (by omega)
set_option maxHeartbeats 4000000 in
set_option maxRecDepth 100000 in
theorem roomLeast_walk (a : Option Addr) (n cap : Nat) (ab : List Int) (b : Option Addr) (m cap' : Nat) (ws : List Int) (o : Option Addr) (len ocap : Nat) (ord : List Int) (w : World) (h : Ints w a n ab) (h' : Ints w b m ws) (ho : Ints w o len ord) :
    Calls Try.prog 7 #[.slice a n cap, .slice b m cap', .slice o len ocap] w fun e w' => e = .returned (.bool true) ∧ Below w.heap.size w w' := by
  have H := hide h
  have HW := hide h'
  have HO := hide ho
  have HAL := hide (alive12_ok w)
  by_cases e0 : treeE ab ws = 0
  · have HE := hide e0
    have hok := treeE_ok e0
    have HOK := hide hok
    have hmn : m = n := by have := hok.same; rw [h.1, h'.1] at this; exact this
    subst hmn
    have hn4 : m ≤ 4096 := by have := hok.few; rw [h.1] at this; exact this
    have HL := hide h.1
    clear h h' ho e0 hok
    go_enter Try.func7, Try.ntmps7
    go_wp2_with (first
      | (go_at_call 19; refine HAL.out.mono ?_; rintro e w1 ⟨rfl, hb⟩; have HB1 := hide hb; clear hb)
      | (go_at_call 20; refine (rTree_any a m cap ab b m cap' ws w1 (H.out.below HB1.out) (HW.out.below HB1.out)).mono ?_; rintro e wz ⟨rfl, hw⟩; rw [hw, HE.out]; clear hw wz)
      | (go_at_call 17; refine (roomClimb_any a m cap ab b m cap' ws w1 (H.out.below HB1.out) (HW.out.below HB1.out) (fun b' o' e h0 => by obtain ⟨b1, o1, e1, z1, _⟩ := (HW.out.below HB1.out).at h0; rw [e] at e1; cases e1; exact z1)).mono ?_; rintro e w2 ⟨⟨T, bl, X, l, c, hsr, rfl, hin⟩, hb⟩; have HSR := hide (hsr HE.out); have HIN := hide hin; rw [climbN, if_pos HE.out, HE.out]; have HB2 := hide (bl_on HB1.out hb); obtain ⟨V, hV⟩ : ∃ V, V = climbV2 ab ws bl := ⟨_, rfl⟩; rw [← hV]; have HV := hide hV; clear hsr hin hb hV))
    have hcl : climbL ab ws T = cI (climbAll T ab.length) := by rw [climbL, if_pos HE.out]
    have HIN2 : Hid (Ints w2 X l (cI (climbAll T ab.length))) := by rw [Hid, ← hcl]; exact HIN.out
    have HPA : Hid (peakA ab ws (cI (climbAll T ab.length)) = (V, 0)) := by rw [Hid, peakA, if_pos HE.out, climb_peak HSR.out.rows HSR.out.bey HSR.out.pos, HV.out]
    have HTGB := hide (tog_climb HSR.out.rows)
    have hll : l = m := by
      have h1 := HIN2.out.1
      have h2 := climb_len HSR.out.rows
      have h3 : (cI (climbAll T ab.length)).length = (climbAll T ab.length).length := by simp [cI]
      have h4 := HL.out
      omega
    have HLT : Hid (∀ t, t < (climbAll T ab.length).length → atK (climbAll T ab.length) t < ab.length) := fun t ht => HSR.out.small _ (atK_mem _ t ht)
    subst hll
    obtain ⟨P2, hP2⟩ : ∃ P2, P2 = peakA ab ws ord := ⟨_, rfl⟩
    have HP2 := hide hP2
    clear hcl hP2
    by_cases e2 : P2.2 = 0
    · obtain ⟨m2, hm2⟩ : ∃ m2, P2 = (m2, 0) := ⟨P2.1, by rw [← e2]⟩
      subst hm2
      have HPV : Hid (peakV ab ws ord = (m2, 0)) := by have h1 := HP2.out; rw [peakA, if_pos HE.out] at h1; exact h1.symm
      obtain ⟨os, hos, hlt2, hliu⟩ := liu_law HSR.out HPV.out
      have HOS := hide hos
      have HLT2 := hide hlt2
      have HLIU := hide hliu
      have HO2 : Hid (Ints w o len (cI os)) := by rw [Hid, ← hos]; exact HO.out
      have hb2 : len ≤ 4096 := by
        have h1 := HPV.out
        by_cases hl : ord.length = ab.length
        · have h2 := HO.out.1
          have h3 := HL.out
          omega
        · rw [peak_long hl] at h1
          cases h1
      clear hos hlt2 hliu e2
      go_wp2_with (first
        | (go_at_call 21; refine (together_any a l cap ab ws X l c (climbAll T ab.length) w3 (H.out.below HB3.out) (HIN2.out.below HB3x.out) HOK.out HLT.out hn4).mono ?_; rintro e wz ⟨rfl, hw⟩; rw [hw, HTGB.out]; have HMARK := HTGB; clear hw wz)
        | (go_at_call 15; have HM := HMARK; refine (roomPeak_any a l cap ab b l cap' ws o len ocap ord w3 (H.out.below HB3.out) (HW.out.below HB3.out) (HO.out.below HB3.out)).mono ?_; rintro e w4 ⟨rfl, hb⟩; rw [← HP2.out]; have HB4 := hide (bl_on HB3.out hb); clear hb)
        | (go_at_call 15; refine (roomPeak_any a l cap ab b l cap' ws X l c (cI (climbAll T ab.length)) w2 (H.out.below HB2.out) (HW.out.below HB2.out) HIN2.out).mono ?_; rintro e w3 ⟨rfl, hb⟩; rw [HPA.out]; have HB3x := hide hb; have HB3 := hide (bl_on HB2.out hb); clear hb))
      go_loop [11, 60] (fun f i => ∃ k : Nat, k ≤ l ∧ i = .int .i64 k ∧ f = .bool (sameTo ws k)) (fun _ i => l - (intOf i).toNat)
      case atStart => exact ⟨0, Nat.zero_le _, rfl, rfl⟩
      case round =>
        obtain ⟨k, hk, rfl, rfl⟩ := hrel
        by_cases hkl : k < l
        · obtain ⟨b1, o1, rfl, zb1, c1⟩ := (HW.out.below HB4.out).at (show 0 < l by omega)
          have q1 := c1 k hkl
          have q0 := c1 0 (by omega)
          rw [Nat.add_zero] at q0
          obtain ⟨x, hx⟩ : ∃ x, x = nth ws k := ⟨_, rfl⟩
          obtain ⟨x0, hx0⟩ : ∃ x, x = nth ws 0 := ⟨_, rfl⟩
          have HS : Hid (sameTo ws (k + 1) = (sameTo ws k && decide (x = x0))) := by rw [Hid, sameTo, hx, hx0]
          simp only [nth] at hx hx0
          rw [← hx] at q1
          rw [← hx0] at q0
          have hkz : (k : Int) < (l : Int) := by omega
          have hl0 : (0 : Int) < (l : Int) := by omega
          clear c1 hx hx0
          obtain ⟨S, hS⟩ : ∃ S, S = sameTo ws k := ⟨_, rfl⟩
          rw [← hS] at HS ⊢
          clear hS
          cases S with
          | true =>
            by_cases hxx : x = x0
            · have hE : (x == x0) = true := by simpa using hxx
              go_wp2
              go_round
              case rel => exact ⟨k + 1, by omega, by go_num, by rw [HS.out]; simp [hxx]⟩
              case measure => simp [intOf]; omega
            · have hE : (x == x0) = false := by simpa using hxx
              go_wp2
              go_round
              case rel => exact ⟨k + 1, by omega, by go_num, by rw [HS.out]; simp [hxx]⟩
              case measure => simp [intOf]; omega
          | false =>
            go_wp2
            go_round
            case rel => exact ⟨k + 1, by omega, by go_num, by rw [HS.out]; simp⟩
            case measure => simp [intOf]; omega
        · obtain rfl : k = l := by omega
          have hkz : ¬ (k : Int) < (k : Int) := by omega
          have HSA := hide (same_all ws k)
          obtain ⟨S, hS⟩ : ∃ S, S = sameTo ws k := ⟨_, rfl⟩
          rw [← hS] at HSA ⊢
          clear hS
          by_cases hge : m2 ≥ V
          · go_wp2
            go_ret
            exact ⟨rfl, HB4.out⟩
          · have hS : S = false := by
              cases S with
              | false => rfl
              | true =>
                exfalso
                have h1 := HLIU.out (.inr fun x hx => HSA.out rfl x (by have h2 := HL.out; omega))
                have h2 := HV.out
                omega
            have HTF : Hid (togB ab os = false) := by
              cases h1 : togB ab os with
              | false => rfl
              | true =>
                exfalso
                have h2 := HLIU.out (.inl h1)
                have h3 := HV.out
                omega
            subst hS
            have HT2 := hide (together_any a k cap ab ws o len ocap os w4 (H.out.below HB4.out) (HO2.out.below HB4.out) HOK.out HLT2.out hb2)
            go_wp2_with (go_at_call 21; refine HT2.out.mono ?_; rintro e wz ⟨rfl, hw⟩; rw [hw, HTF.out]; clear hw wz)
            go_ret
            exact ⟨rfl, HB4.out⟩
    · have hE2 : (P2.2 != 0) = true := by simpa using e2
      go_wp2_with (first
        | (go_at_call 21; refine (together_any a l cap ab ws X l c (climbAll T ab.length) w3 (H.out.below HB3.out) (HIN2.out.below HB3x.out) HOK.out HLT.out hn4).mono ?_; rintro e wz ⟨rfl, hw⟩; rw [hw, HTGB.out]; have HMARK := HTGB; clear hw wz)
        | (go_at_call 15; have HM := HMARK; refine (roomPeak_any a l cap ab b l cap' ws o len ocap ord w3 (H.out.below HB3.out) (HW.out.below HB3.out) (HO.out.below HB3.out)).mono ?_; rintro e w4 ⟨rfl, hb⟩; rw [← HP2.out]; have HB4 := hide (bl_on HB3.out hb); clear hb)
        | (go_at_call 15; refine (roomPeak_any a l cap ab b l cap' ws X l c (cI (climbAll T ab.length)) w2 (H.out.below HB2.out) (HW.out.below HB2.out) HIN2.out).mono ?_; rintro e w3 ⟨rfl, hb⟩; rw [HPA.out]; have HB3x := hide hb; have HB3 := hide (bl_on HB2.out hb); clear hb))
      go_ret
      exact ⟨rfl, HB4.out⟩
  · have HE := hide e0
    have hne : (treeE ab ws != 0) = true := by simpa using e0
    obtain ⟨E, hE⟩ : ∃ E, E = treeE ab ws := ⟨_, rfl⟩
    rw [← hE] at hne
    have HEE := hide hE
    clear h h' ho e0 hE
    go_enter Try.func7, Try.ntmps7
    go_wp2_with (first
      | (go_at_call 19; refine HAL.out.mono ?_; rintro e w1 ⟨rfl, hb⟩; have HB1 := hide hb; clear hb)
      | (go_at_call 20; refine (rTree_any a n cap ab b m cap' ws w1 (H.out.below HB1.out) (HW.out.below HB1.out)).mono ?_; rintro e wz ⟨rfl, hw⟩; rw [hw, ← HEE.out]; clear hw wz))
    go_ret
    exact ⟨rfl, HB1.out⟩
end Go.Proofs.Ytnncalhpbfmgoaa.V
