/-
  The walk of ViewThrough.
-/
import Derived.Test.YtfamaaahofjglaaStep
import Derived.Test.YtfamaaahofjglaaAlive
import Derived.Deep.QuietTactic
import Derived.BigQuiet
namespace Go.Proofs.Ytfamaaahofjglaa.V
open Go.RowKit

theorem drewN_add (w : World) (a b : Nat) : (w.drewN a).drewN b = w.drewN (a + b) := by simp [World.drewN, Nat.add_assoc]

set_option maxRecDepth 100000 in
set_option maxHeartbeats 8000000 in
theorem viewThrough_walk (s n : Int) (da : Option Addr) (dl dc : Nat) (ds : List Int) (sa : Option Addr) (sl sc : Nat) (ss : List Int) (aa : Option Addr) (al ac : Nat) (as' : List Int) (ba : Option Addr) (bl bc : Nat) (bs : List Int) (ca : Option Addr) (cl cc : Nat) (cs : List Int) (w : World)
    (hd : Ints w da dl ds) (hs : Ints w sa sl ss) (ha : Ints w aa al as') (hb : Ints w ba bl bs) (hc : Ints w ca cl cs) :
    Calls Try.prog 7 #[.agg #[.int .i64 s, .slice da dl dc, .slice sa sl sc], .int .i64 n, .slice aa al ac, .slice ba bl bc, .slice ca cl cc] w fun e w' => e = .returned (.bool true) ∧ Below w.heap.size w w' := by
  have HD := hide hd
  have HS := hide hs
  have HA := hide ha
  have HBb := hide hb
  have HC := hide hc
  clear hd hs ha hb hc
  have hb0 : Below w.heap.size w (w.alloc (.cells #[.int .i64 s, .slice da dl dc, .slice sa sl sc] 24)) := (Below.refl _ _).alloc (Nat.le_refl _) _
  have HB0 := hide hb0
  clear hb0
  obtain ⟨E, hE⟩ : ∃ E, stE n s ds ss as' bs cs = E := ⟨_, rfl⟩
  have HE := hide hE
  obtain ⟨E0, hE0⟩ : ∃ E0, wrongE s ds ss = E0 := ⟨_, rfl⟩
  have HE0 := hide hE0
  clear hE hE0
  go_enter Try.func7, Try.ntmps7
  go_wp2_with fail
  refine (alive_any _).mono ?_
  rintro e w1 ⟨rfl, hb⟩
  have HB1 := hide (Below.on HB0.out hb)
  have HV1 := hide ((ViewAt.new w (.int .i64 s) (.slice da dl dc) (.slice sa sl sc)).below hb)
  obtain ⟨⟨v0, v1, v2⟩, _⟩ := HV1.out.cells
  clear hb
  go_wp2_with fail
  refine (reads_any _ _ _ _ ds _ _ _ ss _ (HD.out.below HB1.out) (HS.out.below HB1.out)).mono ?_
  rintro e w2 ⟨⟨A, n1, c1, rfl, hi, _, _⟩, hb⟩
  rw [HE0.out] at hi ⊢
  have HI2 := hide hi
  have HB2 := hide (Below.on HB1.out hb)
  have HV2 := hide (HV1.out.below hb)
  obtain ⟨⟨v0, v1, v2⟩, _⟩ := HV2.out.cells
  have hlt2 := HV2.out.lt
  clear hb hi
  by_cases hW : E0 ≠ 0
  · have c1 : (E0 != 0) = true := by simp [hW]
    go_wp2
    go_ret
    exact ⟨rfl, HB2.out⟩
  replace hW : E0 = 0 := by simpa using hW
  subst hW
  go_wp2_with fail
  refine (step_any _ _ _ _ _ ds _ _ _ ss _ _ _ as' _ _ _ bs _ _ _ cs _ (HD.out.below HB2.out) (HS.out.below HB2.out) (HA.out.below HB2.out) (HBb.out.below HB2.out) (HC.out.below HB2.out)).mono ?_
  rintro e w3 ⟨hgv, hb⟩
  rw [HE.out] at hgv
  obtain ⟨da3, dl3, dc3, sa3, sl3, sc3, rfl, hi3, hj3, _, _⟩ := hgv
  have HI3 := hide hi3
  have HJ3 := hide hj3
  have HA3 := hide (HI2.out.below hb)
  have HB3 := hide (Below.on HB2.out hb)
  have HV3 := hide (HV2.out.below hb)
  obtain ⟨⟨t0, t1, t2⟩, _⟩ := HV3.out.cells
  have hlt3 := HV3.out.lt
  clear hb hi3 hj3 v0 v1 v2
  by_cases hE : E ≠ 0
  · have c1 : (E != 0) = true := by simp [hE]
    go_wp2
    go_ret
    exact ⟨rfl, bl_alloc HB3.out⟩
  replace hE : E = 0 := by simpa using hE
  subst hE
  obtain ⟨_, hw0, hw1, hw2, hrd⟩ := thr_all HE.out
  obtain ⟨S, hS⟩ : ∃ S, stS n s ds ss as' = S := ⟨_, rfl⟩
  obtain ⟨T, hT⟩ : ∃ T, stT n s ds ss as' bs cs = T := ⟨_, rfl⟩
  obtain ⟨S0, hS0⟩ : ∃ S0, stS n 0 ds (stepsV ds) as' = S0 := ⟨_, rfl⟩
  obtain ⟨T0, hT0⟩ : ∃ T0, stT n 0 ds (stepsV ds) as' bs cs = T0 := ⟨_, rfl⟩
  obtain ⟨D, hD⟩ : ∃ D, stD n ds as' bs cs = D := ⟨_, rfl⟩
  rw [hS, hT, hD] at hw1
  rw [hS0, hT0, hD] at hw2
  rw [hS, hT, hS0, hT0, hD] at hrd
  rw [hT] at HJ3
  rw [hD] at HI3
  rw [hS]
  simp only [okS, okL, if_true] at HI3 HJ3 HA3 ⊢
  have hEd : sizeE ds = 0 := (wrongE_ok HE0.out).1
  have HED := hide hEd
  have HW0 := hide hw0
  have HW1 := hide hw1
  have HW2 := hide hw2
  have HRD := hide hrd
  have HS0 := hide hS0
  have HT0 := hide hT0
  have HDD := hide hD
  clear hw0 hw1 hw2 hrd hS hT hS0 hT0 hD hEd
  go_wp2_with (first
    | (go_at_call 9; refine (whole_any _ _ _ ds _ (HD.out.below (bl_alloc HB3.out)) none).mono ?_; rintro e w4 ⟨hgv, hb⟩; rw [HED.out] at hgv; simp only [okL, if_true] at hgv; obtain ⟨da4, dl4, dc4, sa4, sl4, sc4, rfl, hi4, hj4, _, _⟩ := hgv.gives; have HI4 := hide hi4; have HJ4 := hide hj4; have HB4 := hide (Below.on (bl_alloc HB3.out) hb); have HU4 := hide ((ViewAt.new w3 (.int .i64 S) (.slice da3 dl3 dc3) (.slice sa3 sl3 sc3)).below hb); have HI34 := hide ((HI3.out.below ((Below.refl _ _).alloc (Nat.le_refl _) _)).below hb); have HJ34 := hide ((HJ3.out.below ((Below.refl _ _).alloc (Nat.le_refl _) _)).below hb); have HA4 := hide ((HA3.out.below ((Below.refl _ _).alloc (Nat.le_refl _) _)).below hb); have hlt4 := HU4.out.lt; clear hb hgv hi4 hj4)
    | (go_at_call 28; refine (step_any _ _ _ _ _ ds _ _ _ (stepsV ds) _ _ _ as' _ _ _ bs _ _ _ cs _ (HI4.out.below ((Below.refl _ _).alloc (Nat.le_refl _) _)) (HJ4.out.below ((Below.refl _ _).alloc (Nat.le_refl _) _)) (HA.out.below (bl_alloc HB4.out)) (HBb.out.below (bl_alloc HB4.out)) (HC.out.below (bl_alloc HB4.out))).mono ?_; rintro e w5 ⟨hgv, hb⟩; rw [HW0.out, HS0.out, HT0.out, HDD.out] at hgv; simp only [okS, okL, if_true] at hgv; obtain ⟨da5, dl5, dc5, sa5, sl5, sc5, rfl, hi5, hj5, _, _⟩ := hgv; have HI5 := hide hi5; have HJ5 := hide hj5; have HB5 := hide (Below.on (bl_alloc HB4.out) hb); have HU5 := hide ((HU4.out.alloc _).below hb); have HI35 := hide ((HI34.out.below ((Below.refl _ _).alloc (Nat.le_refl _) _)).below hb); have HJ35 := hide ((HJ34.out.below ((Below.refl _ _).alloc (Nat.le_refl _) _)).below hb); have HA5 := hide ((HA4.out.below ((Below.refl _ _).alloc (Nat.le_refl _) _)).below hb); have hlt5 := HU5.out.lt; clear hb hi5 hj5)
    | (go_at_call_of 14 (Value.agg #[.int .i64 S0, .slice da5 dl5 dc5, .slice sa5 sl5 sc5]); refine (reads_any _ _ _ _ D _ _ _ T0 _ (HI5.out.below ((Below.refl _ _).alloc (Nat.le_refl _) _)) (HJ5.out.below ((Below.refl _ _).alloc (Nat.le_refl _) _))).mono ?_; rintro e w6 ⟨⟨A6, n6, c6, rfl, hi6, _, _⟩, hb⟩; rw [HW2.out] at hi6 ⊢; simp only [okL, if_true] at hi6; have HI6 := hide hi6; have HB6 := hide (Below.on (bl_alloc HB5.out) hb); have HU6 := hide ((HU5.out.alloc _).below hb); have HI36 := hide ((HI35.out.below ((Below.refl _ _).alloc (Nat.le_refl _) _)).below hb); have HJ36 := hide ((HJ35.out.below ((Below.refl _ _).alloc (Nat.le_refl _) _)).below hb); have HA6 := hide ((HA5.out.below ((Below.refl _ _).alloc (Nat.le_refl _) _)).below hb); have hlt6 := HU6.out.lt; obtain ⟨⟨x0, x1, x2⟩, _⟩ := HU6.out.cells; clear hb hi6)
    | (go_at_call 14; refine (reads_any _ _ _ _ D _ _ _ T _ HI36.out HJ36.out).mono ?_; rintro e w7 ⟨⟨A7, n7, c7, rfl, hi7, _, _⟩, hb⟩; rw [HW1.out] at hi7 ⊢; simp only [okL, if_true] at hi7; have HI7 := hide hi7; have HI67 := hide (HI6.out.below hb); have HA7 := hide (HA6.out.below hb); have HB7 := hide (Below.on HB6.out hb); have l6 := HI6.out.1; have l7 := hi7.1; rw [readsV_length] at l6 l7; obtain rfl : n7 = n6 := (l7.symm.trans l6); clear hb hi7 l7))
  have hM : n7 = (prod D).toNat := l6.symm
  have hNn : n1 = (prod ds).toNat := by have := HA7.out.1; rw [readsV_length] at this; exact this.symm
  have hM2 : n7 ≤ 65536 := by
    rcases dims_cases (wrongE_ok HW2.out).1 with ⟨_, _, h⟩ | ⟨_, _, h, _⟩ <;> omega
  have hN2 : n1 ≤ 65536 := by
    rcases dims_cases HED.out with ⟨_, _, h⟩ | ⟨_, _, h, _⟩ <;> omega
  have HM := hide hM
  have HNN := hide hNn
  clear l6 hM hNn HI3 HJ3 HA3 HI4 HJ4 HI34 HJ34 HA4 HI5 HJ5 HI35 HJ35 HA5 HI6 HI36 HJ36 HA6 HU4 HU5 HU6 x0 x1 x2 t0 t1 t2
  go_loopw [82] (fun i wr => ∃ k : Nat, k ≤ n7 ∧ i = .int .i64 k ∧ ∃ m, wr = w7.drewN m) (fun i _ => n7 - (intOf i).toNat)
  case atStart => exact ⟨0, Nat.zero_le _, rfl, 0, rfl⟩
  case round =>
    obtain ⟨k, hk, rfl, m, hwr⟩ := hrel
    have HWR := hide hwr
    clear hwr
    by_cases hlt : k < n7
    · obtain ⟨p, hp, e1, e2⟩ := HRD.out k (by rw [← HM.out]; exact hlt)
      have hpn : p < n1 := by rw [HNN.out]; exact hp
      obtain ⟨ab, ao, rfl, _, hac⟩ := HA7.out.at (by omega)
      obtain ⟨pb, po, rfl, _, hpc⟩ := HI67.out.at (by omega)
      obtain ⟨gb, go', rfl, _, hgc⟩ := HI7.out.at (by omega)
      obtain ⟨X, hX⟩ : ∃ X, (readsV s ds ss)[p]?.getD 0 = X := ⟨_, rfl⟩
      have cp : wr.cell? ⟨pb, po + k, none⟩ = some (.int .i64 (p : Int)) := by rw [← e1, HWR.out]; exact hpc k hlt
      have cg : wr.cell? ⟨gb, go' + k, none⟩ = some (.int .i64 X) := by rw [← hX, ← e2, HWR.out]; exact hgc k hlt
      have ca' : wr.cell? ⟨ab, ao + p, none⟩ = some (.int .i64 X) := by rw [← hX, HWR.out]; exact hac p hpn
      have i1 : (0 : Int) ≤ (k : Int) := Int.natCast_nonneg _
      have i2 : (k : Int) < (n7 : Int) := by omega
      have i3 : (0 : Int) ≤ (p : Int) := Int.natCast_nonneg _
      have i4 : (p : Int) < (n1 : Int) := by omega
      have t1 : decide ((p : Int) < 0) = false := by simp
      have t2 : decide ((n1 : Int) ≤ (p : Int)) = false := by simp; omega
      have t3 : (X != X) = false := by simp
      clear hac hpc hgc e1 e2 hX hp
      go_wp2_with fail
      go_quiet (fail)
      go_wp2
      go_roundw
      case rel =>
        refine ⟨k + 1, by omega, by go_num, m + nq, ?_⟩
        rw [HWR.out]; exact drewN_add _ _ _
      case measure => simp [intOf]; omega
    · obtain rfl : k = n7 := by omega
      go_wp2
      go_ret
      rw [HWR.out]
      exact ⟨rfl, below_drewN' HB7.out _⟩
end Go.Proofs.Ytfamaaahofjglaa.V
