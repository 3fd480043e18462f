/-
  The walk of ViewAgain.
-/
import Derived.Test.YtfamaaahofjglaaAgainMath
import Derived.Test.YtfamaaahofjglaaAlive
import Derived.Test.YtfamaaahofjglaaRTurnAny
import Derived.Test.YtfamaaahofjglaaRFlipAny
import Derived.Test.YtfamaaahofjglaaPut
import Derived.Test.YtfamaaahofjglaaBut
namespace Go.Proofs.Ytfamaaahofjglaa.V
open Go.RowKit

theorem inv_succ (ps : List Int) (k m j : Nat) (hm : ps[k]?.getD 0 = (m : Int)) : (if j = m then Value.int .i64 (k : Int) else .int .i64 (invN ps k j)) = .int .i64 (invN ps (k + 1) j) := by
  rw [invN, hm]
  by_cases e : j = m
  · subst e; simp
  · rw [if_neg e, if_neg (by omega)]
theorem invL_bd {ps : List Int} {n : Nat} (hp : PermOk ps n) (h6 : n ≤ 6) : ∀ x ∈ invL ps, -9223372036854775808 ≤ x ∧ x ≤ 9223372036854775807 := by
  intro x hx
  obtain ⟨i, hi, e⟩ := List.getElem_of_mem hx
  have hp' := invL_perm hp
  have := hp'.2 i (by rw [← hp'.1]; exact hi)
  simp [hi, e] at this
  omega

set_option maxRecDepth 100000 in
set_option maxHeartbeats 8000000 in
theorem viewAgain_walk (s : Int) (da : Option Addr) (dl dc : Nat) (ds : List Int) (sa : Option Addr) (sl sc : Nat) (ss : List Int) (pa : Option Addr) (pl pc : Nat) (ps : List Int) (ba : Option Addr) (bl bc : Nat) (bs : List Int) (ea : Option Addr) (el ec : Nat) (es : List Int) (w : World)
    (hd : Ints w da dl ds) (hdc : dl ≤ dc) (hs : Ints w sa sl ss) (hp : Ints w pa pl ps) (hq : Ints w ba bl bs) (he : Ints w ea el es) :
    Calls Try.prog 8 #[.agg #[.int .i64 s, .slice da dl dc, .slice sa sl sc], .slice pa pl pc, .slice ba bl bc, .slice ea el ec] w fun e w' => e = .returned (.bool true) ∧ Below w.heap.size w w' := by
  have HD := hide hd
  have HS := hide hs
  have HP := hide hp
  have HQ := hide hq
  have HE := hide he
  clear hd hs hp hq he
  have hb0 : Below w.heap.size w (w.alloc (.cells #[.int .i64 s, .slice da dl dc, .slice sa sl sc] 24)) := (Below.refl _ _).alloc (Nat.le_refl _) _
  have HB0 := hide hb0
  clear hb0
  go_enter Try.func8, Try.ntmps8
  go_wp2_with fail
  refine (alive_any _).mono ?_
  rintro e w1 ⟨rfl, hb⟩
  have HB1 := hide (Below.on HB0.out hb)
  have HV1 := hide ((ViewAt.new w (.int .i64 s) (.slice da dl dc) (.slice sa sl sc)).below hb)
  obtain ⟨⟨v0, v1, v2⟩, _⟩ := HV1.out.cells
  clear hb
  go_wp2_with fail
  refine (rturn_any _ _ _ _ ds _ _ _ ss _ _ _ ps _ (HD.out.below HB1.out) (HS.out.below HB1.out) (HP.out.below HB1.out)).mono ?_
  rintro e w2 ⟨⟨da2, dl2, dc2, sa2, sl2, sc2, rfl, _, _, _, _⟩, hb⟩
  have HB2 := hide (Below.on HB1.out hb)
  have HV2 := hide (HV1.out.below hb)
  have hlt2 := HV2.out.lt
  obtain ⟨⟨v0, v1, v2⟩, _⟩ := HV2.out.cells
  obtain ⟨E1, hE1⟩ : ∃ E1, turnE s ds ss ps = E1 := ⟨_, rfl⟩
  have HE1 := hide hE1
  rw [hE1]
  clear hb hE1
  go_upto_if 38 with fail
  go_cut [] (fun wc => ViewAt wc w.heap.size (.int .i64 s) (.slice da dl dc) (.slice sa sl sc) ∧ Below w.heap.size w wc)
  case first =>
    by_cases hE1 : E1 = 0
    · subst hE1
      obtain ⟨hpo, hag, hb1, hb2⟩ := turn_again HE1.out
      have hld := HD.out.1
      have hlp := HP.out.1
      rw [hld] at hpo
      obtain rfl : pl = dl := by have := hpo.1; omega
      have h6 : pl ≤ 6 := by
        have := HE1.out
        unfold turnE at this
        have hW : wrongE s ds ss = 0 := by
          by_cases c : wrongE s ds ss = 0
          · exact c
          · rw [if_pos c] at this; exact absurd this c
        have := (sizeE_ok (wrongE_ok hW).1).1
        omega
      have HPO := hide hpo
      have HAG := hide hag
      have HK1 := hide hb1
      have HK2 := hide hb2
      have hmk := run_make_row' (P := Try.prog) 22 3 (.int .i64 0) 8 Try.underlying22 info_int rfl .i64 .i64 pl (by omega) (by omega)
      clear hpo hag hb1 hb2 hld hlp
      go_wp2_with (go_at_call 17; refine (turn_any _ _ _ _ ds _ _ _ ss _ _ _ ps _ (HD.out.below (bl_alloc HB2.out)) (HS.out.below (bl_alloc HB2.out)) (HP.out.below (bl_alloc HB2.out))).mono ?_; rintro e w3 ⟨hgv, hb⟩; rw [HE1.out] at hgv; simp only [okS, okL, if_true] at hgv; obtain ⟨da3, dl3, dc3, sa3, sl3, sc3, rfl, hi3, hj3, _, _⟩ := hgv; have HI3 := hide hi3; have HJ3 := hide hj3; have HB3 := hide (Below.on (bl_alloc HB2.out) hb); have HV3 := hide ((HV2.out.alloc _).below hb); have hlt3 := HV3.out.lt; clear hb hi3 hj3)
      clear hmk
      have hrow := World.rowIs_made (w3.alloc (.cells #[.int .i64 s, .slice da3 dl3 dc3, .slice sa3 sl3 sc3] 24)) (.int .i64 0) pl 3
      simp only [World.size_alloc] at hrow
      have hV4 := (HV3.out.alloc (.cells #[.int .i64 s, .slice da3 dl3 dc3, .slice sa3 sl3 sc3] 24)).alloc (.cells (madeCells #[.int .i64 0] pl) 3)
      have hU4 := (ViewAt.new w3 (.int .i64 s) (.slice da3 dl3 dc3) (.slice sa3 sl3 sc3)).alloc (.cells (madeCells #[.int .i64 0] pl) 3)
      have hB4 := bl_alloc (o := .cells (madeCells #[.int .i64 0] pl) 3) (bl_alloc (o := .cells #[.int .i64 s, .slice da3 dl3 dc3, .slice sa3 sl3 sc3] 24) HB3.out)
      have hz4 : Below w3.heap.size w3 ((w3.alloc (.cells #[.int .i64 s, .slice da3 dl3 dc3, .slice sa3 sl3 sc3] 24)).alloc (.cells (madeCells #[.int .i64 0] pl) 3)) := bl_alloc (bl_alloc (Below.refl _ _))
      obtain ⟨W0, hW0⟩ : ∃ W0, (w3.alloc (.cells #[.int .i64 s, .slice da3 dl3 dc3, .slice sa3 sl3 sc3] 24)).alloc (.cells (madeCells #[.int .i64 0] pl) 3) = W0 := ⟨_, rfl⟩
      rw [hW0] at hrow hV4 hU4 hB4 hz4 ⊢
      have hi4 := HI3.out.below hz4
      have hj4 := HJ3.out.below hz4
      have n1 : ∀ b o, da3 = some ⟨b, o, none⟩ → 0 < dl3 → b < w3.heap.size := fun b o e h0 => by
        obtain ⟨b', o', e', hb', _⟩ := HI3.out.at h0
        rw [e] at e'; cases e'; exact hb'
      have n2 : ∀ b o, sa3 = some ⟨b, o, none⟩ → 0 < sl3 → b < w3.heap.size := fun b o e h0 => by
        obtain ⟨b', o', e', hb', _⟩ := HJ3.out.at h0
        rw [e] at e'; cases e'; exact hb'
      have HROW := hide hrow
      have HV4 := hide hV4
      have HU4 := hide hU4
      have HB4 := hide hB4
      have HI4 := hide hi4
      have HJ4 := hide hj4
      have HN1 := hide n1
      have HN2 := hide n2
      clear hrow hV4 hU4 hB4 hz4 hi4 hj4 n1 n2 hW0 HI3 HJ3 v0 v1 v2
      go_loopw [52] (fun i wr => ∃ k : Nat, k ≤ pl ∧ i = .int .i64 k ∧ wr.rowIs (w3.heap.size + 1) 3 pl (fun j => .int .i64 (invN ps k j)) ∧ But (w3.heap.size + 1) W0 wr ∧ Below w.heap.size w wr) (fun i _ => pl - (intOf i).toNat)
      case atStart => exact ⟨0, Nat.zero_le _, rfl, World.rowIs.congr HROW.out (fun j _ => rfl), But.refl _ _, HB4.out⟩
      case round =>
        obtain ⟨k, hk, rfl, hrow, hbut, hB⟩ := hrel
        have HR := hide hrow
        have HBUT := hide hbut
        have HBW := hide hB
        clear hrow hbut hB
        by_cases hlt : k < pl
        · obtain ⟨pb, po, rfl, hpb, hpc⟩ := HP.out.at (by omega)
          have hpp := HPO.out.2 k hlt
          obtain ⟨m, hm⟩ : ∃ m : Nat, ps[k]?.getD 0 = (m : Int) := ⟨(ps[k]?.getD 0).toNat, by omega⟩
          have hml : m < pl := by omega
          have cp : wr.cell? ⟨pb, po + k, none⟩ = some (.int .i64 (m : Int)) := by rw [← hm]; exact (HBW.out.cell (p := ⟨pb, po + k, none⟩) hpb).trans (hpc k hlt)
          have HM := hide hm
          have cr := HR.out.cell hml
          have fr := HR.out.frozen m
          have i1 : (0 : Int) ≤ (k : Int) := Int.natCast_nonneg _
          have i2 : (k : Int) < (pl : Int) := by omega
          have i3 : (0 : Int) ≤ (m : Int) := Int.natCast_nonneg _
          have i4 : (m : Int) < (pl : Int) := by omega
          clear hpc hpp hm
          go_wp2
          go_roundw
          case rel =>
            refine ⟨k + 1, by omega, by go_num, ?_, HBUT.out.set m _, HBW.out.setCell (p := ⟨w3.heap.size + 1, m, none⟩) (by simp; omega) _⟩
            exact (HR.out.set m _).congr (fun j _ => inv_succ ps k m j HM.out)
          case measure => simp [intOf]; omega
        · obtain rfl : k = pl := by omega
          have hbi : Ints wr (some ⟨w3.heap.size + 1, 0, none⟩) k (invL ps) := by
            have hl := HP.out.1
            refine ints_of_rowI (HR.out.congr (fun j hj => ?_)) (by rw [invL_length]; exact hl) (by omega) (invL_bd HPO.out h6)
            rw [invL_getD ps j (by omega), hl]
          have hU5 := HBUT.out.view HU4.out (by omega)
          have hV5 := HBUT.out.view HV4.out (by omega)
          have hi5 : Ints wr da3 dl3 (taken ds ps) := by
            by_cases h0 : dl3 = 0
            · obtain ⟨q1, q2, q3, _⟩ := HI4.out; exact ⟨q1, q2, q3, .inl h0⟩
            · exact HBUT.out.ints HI4.out (fun b o e => by have := HN1.out b o e (by omega); omega)
          have hj5 : Ints wr sa3 sl3 (taken ss ps) := by
            by_cases h0 : sl3 = 0
            · obtain ⟨q1, q2, q3, _⟩ := HJ4.out; exact ⟨q1, q2, q3, .inl h0⟩
            · exact HBUT.out.ints HJ4.out (fun b o e => by have := HN2.out b o e (by omega); omega)
          obtain ⟨⟨u0, u1, u2⟩, _⟩ := hU5.cells
          have HBI := hide hbi
          have HV5 := hide hV5
          have HI5 := hide hi5
          have HJ5 := hide hj5
          clear hbi hU5 hV5 hi5 hj5 HI4 HJ4 HV4 HU4 HB4
          go_wp2_with (first
            | (go_at_call 17; refine (turn_any _ _ _ _ (taken ds ps) _ _ _ (taken ss ps) _ _ _ (invL ps) _ HI5.out HJ5.out HBI.out).mono ?_; rintro e w6 ⟨hgv, hb⟩; rw [HAG.out, HK1.out, HK2.out] at hgv; simp only [okS, okL, if_true] at hgv; obtain ⟨da6, dl6, dc6, sa6, sl6, sc6, rfl, hi6, hj6, _, _⟩ := hgv; have HI6 := hide hi6; have HJ6 := hide hj6; have HB6 := hide (Below.on HBW.out hb); have HV6 := hide (HV5.out.below hb); have hlt6 := HV6.out.lt; obtain ⟨⟨x0, x1, x2⟩, _⟩ := HV6.out.cells; clear hb hi6 hj6)
            | (go_at_call 11; refine (sameView_any _ _ _ _ _ _ _ _ _ _ _ _ _ _ _ _ _ _ _ (HI6.out.below ((Below.refl _ _).alloc (Nat.le_refl _) _)) (HJ6.out.below ((Below.refl _ _).alloc (Nat.le_refl _) _)) (HD.out.below (bl_alloc HB6.out)) (HS.out.below (bl_alloc HB6.out)) rfl rfl rfl).mono ?_; rintro e w7 ⟨rfl, hb⟩; have HB7 := hide (Below.on (bl_alloc HB6.out) hb); have HV7 := hide ((HV6.out.alloc _).below hb); clear hb))
          go_meet
          exact ⟨HV7.out, HB7.out⟩
    · have c1 : (E1 == 0) = false := by simp [hE1]
      go_wp2
      go_meet
      exact ⟨HV2.out.alloc _, bl_alloc HB2.out⟩
  case rest =>
    obtain ⟨hv, hB⟩ := hcut
    obtain ⟨⟨v0', v1', v2'⟩, _⟩ := hv.cells
    have HV := hide hv
    have HB := hide hB
    clear hv hB v0 v1 v2
    obtain ⟨E2, hE2⟩ : ∃ E2, flipE s ds ss bs = E2 := ⟨_, rfl⟩
    have HE2 := hide hE2
    clear hE2
    go_upto_if 83 with (go_at_call 20; refine (rflip_any _ _ _ _ ds _ _ _ ss _ _ _ bs _ (HD.out.below HB.out) (HS.out.below HB.out) (HQ.out.below HB.out) hdc).mono ?_; rintro e w3 ⟨hgv, hb⟩; rw [HE2.out] at hgv; obtain ⟨da3, dl3, dc3, sa3, sl3, sc3, rfl, _, _, _, _⟩ := hgv.gives; have HB3 := hide (Below.on HB.out hb); have HV3 := hide (HV.out.below hb); obtain ⟨⟨t0, t1, t2⟩, _⟩ := HV3.out.cells; have hlt3 := HV3.out.lt; clear hb hgv)
    clear v0' v1' v2' HB HV HB2 HV2
    go_cut [] (fun wc => ViewAt wc w.heap.size (.int .i64 s) (.slice da dl dc) (.slice sa sl sc) ∧ Below w.heap.size w wc)
    case first =>
      by_cases hE2 : E2 = 0
      · subst hE2
        obtain ⟨hag, hb1, hb2⟩ := flip_again HE2.out
        have HAG := hide hag
        have HK1 := hide hb1
        have HK2 := hide hb2
        clear hag hb1 hb2
        obtain ⟨A, hA⟩ : ∃ A, flipAcc s ds ss bs bs.length = A := ⟨_, rfl⟩
        rw [hA] at HAG HK1
        have HA := hide hA
        clear hA
        go_wp2_with (first
          | (go_at_call_of 19 (Value.agg #[.int .i64 s, .slice da dl dc, .slice sa sl sc]); refine (flip_any _ _ _ _ ds _ _ _ ss _ _ _ bs _ (HD.out.below (bl_alloc HB3.out)) (HS.out.below (bl_alloc HB3.out)) (HQ.out.below (bl_alloc HB3.out))).mono ?_; rintro e w4 ⟨hgv, hb⟩; rw [HE2.out, HA.out] at hgv; simp only [okS, okL, if_true] at hgv; obtain ⟨da4, dl4, dc4, sa4, sl4, sc4, rfl, hi4, hj4, _, _⟩ := hgv.gives; have HI4 := hide hi4; have HJ4 := hide hj4; have HB4 := hide (Below.on (bl_alloc HB3.out) hb); have HV4 := hide ((HV3.out.alloc _).below hb); have hlt4 := HV4.out.lt; clear hb hgv hi4 hj4)
          | (go_at_call 19; refine (flip_any _ _ _ _ ds _ _ _ (flipL ss bs) _ _ _ bs _ (HI4.out.below ((Below.refl _ _).alloc (Nat.le_refl _) _)) (HJ4.out.below ((Below.refl _ _).alloc (Nat.le_refl _) _)) (HQ.out.below (bl_alloc HB4.out))).mono ?_; rintro e w5 ⟨hgv, hb⟩; rw [HAG.out, HK1.out, HK2.out] at hgv; simp only [okS, okL, if_true] at hgv; obtain ⟨da5, dl5, dc5, sa5, sl5, sc5, rfl, hi5, hj5, _, _⟩ := hgv.gives; have HI5 := hide hi5; have HJ5 := hide hj5; have HB5 := hide (Below.on (bl_alloc HB4.out) hb); have HV5 := hide ((HV4.out.alloc _).below hb); have hlt5 := HV5.out.lt; obtain ⟨⟨x0, x1, x2⟩, _⟩ := HV5.out.cells; clear hb hgv hi5 hj5)
          | (go_at_call 11; refine (sameView_any _ _ _ _ _ _ _ _ _ _ _ _ _ _ _ _ _ _ _ (HI5.out.below ((Below.refl _ _).alloc (Nat.le_refl _) _)) (HJ5.out.below ((Below.refl _ _).alloc (Nat.le_refl _) _)) (HD.out.below (bl_alloc HB5.out)) (HS.out.below (bl_alloc HB5.out)) rfl rfl rfl).mono ?_; rintro e w7 ⟨rfl, hb⟩; have HB7 := hide (Below.on (bl_alloc HB5.out) hb); have HV7 := hide ((HV5.out.alloc _).below hb); clear hb))
        go_meet
        exact ⟨HV7.out, HB7.out⟩
      · have c1 : (E2 == 0) = false := by simp [hE2]
        go_wp2
        go_meet
        exact ⟨HV3.out.alloc _, bl_alloc HB3.out⟩
    case rest =>
      obtain ⟨hv, hB⟩ := hcut
      obtain ⟨⟨v0', v1', v2'⟩, _⟩ := hv.cells
      have HV := hide hv
      have HB := hide hB
      clear hv hB t0 t1 t2
      by_cases hE : sizeE ds = 0
      · have HE0 := hide hE
        have HRW := hide (reform_whole (es := es) hE)
        obtain ⟨E3, hE3⟩ : ∃ E3, reformE 0 ds (stepsV ds) es = E3 := ⟨_, rfl⟩
        have HE3 := hide hE3
        clear hE hE3
        by_cases hZ : sizeE es = 0
        · have HZS := hide hZ
          have q1 : ((E3 == 0) == (sizeN ds == sizeN es)) = true := by
            have := HRW.out
            rw [HE3.out] at this
            by_cases c : sizeN ds = sizeN es
            · have h0 : E3 = 0 := this.2 ⟨hZ, c⟩
              simp [h0, c]
            · have h0 : E3 ≠ 0 := fun h => c (this.1 h).2
              have a1 : (E3 == 0) = false := by simp [h0]
              have a2 : (sizeN ds == sizeN es) = false := by simp [c]
              rw [a1, a2]; rfl
          clear hZ
          go_wp2_with (first
            | (go_at_call 9; refine (whole_any _ _ _ ds _ (HD.out.below HB.out) none).mono ?_; rintro e w4 ⟨hgv, hb⟩; rw [HE0.out] at hgv; simp only [okL, if_true] at hgv; obtain ⟨da4, dl4, dc4, sa4, sl4, sc4, rfl, hi4, hj4, _, _⟩ := hgv.gives; have HI4 := hide hi4; have HJ4 := hide hj4; have HB4 := hide (Below.on HB.out hb); have HV4 := hide (HV.out.below hb); obtain ⟨⟨x0, x1, x2⟩, _⟩ := HV4.out.cells; have hlt4 := HV4.out.lt; clear hb hgv hi4 hj4)
            | (go_at_call_of 29 (Value.slice ea el ec); refine (size_any _ _ _ es _ (HE.out.below (bl_alloc HB4.out))).mono ?_; rintro e w' ⟨rfl, hw'⟩; obtain rfl := hw'.symm; rw [HZS.out])
            | (go_at_call 29; refine (size_any _ _ _ ds _ (HD.out.below (bl_alloc HB4.out))).mono ?_; rintro e w' ⟨rfl, hw'⟩; obtain rfl := hw'.symm)
            | (go_at_call 25; refine (reform_any _ _ _ _ ds _ _ _ (stepsV ds) _ _ _ es _ (HI4.out.below ((Below.refl _ _).alloc (Nat.le_refl _) _)) (HJ4.out.below ((Below.refl _ _).alloc (Nat.le_refl _) _)) (HE.out.below (bl_alloc HB4.out)) none).mono ?_; rintro e w5 ⟨hgv, hb⟩; rw [HE3.out] at hgv; obtain ⟨da5, dl5, dc5, sa5, sl5, sc5, rfl, _, _, _, _⟩ := hgv.gives; have HB5 := hide (Below.on (bl_alloc HB4.out) hb); clear hb hgv))
          go_ret
          exact ⟨rfl, bl_alloc HB5.out⟩
        · have q1 : (E3 == 0) = false := by
            have := HRW.out
            rw [HE3.out] at this
            have h0 : E3 ≠ 0 := fun h => hZ (this.1 h).1
            simp [h0]
          have q2 : (sizeE es == 0) = false := by simp [hZ]
          clear hZ
          go_wp2_with (first
            | (go_at_call 9; refine (whole_any _ _ _ ds _ (HD.out.below HB.out) none).mono ?_; rintro e w4 ⟨hgv, hb⟩; rw [HE0.out] at hgv; simp only [okL, if_true] at hgv; obtain ⟨da4, dl4, dc4, sa4, sl4, sc4, rfl, hi4, hj4, _, _⟩ := hgv.gives; have HI4 := hide hi4; have HJ4 := hide hj4; have HB4 := hide (Below.on HB.out hb); have HV4 := hide (HV.out.below hb); obtain ⟨⟨x0, x1, x2⟩, _⟩ := HV4.out.cells; have hlt4 := HV4.out.lt; clear hb hgv hi4 hj4)
            | (go_at_call_of 29 (Value.slice ea el ec); refine (size_any _ _ _ es _ (HE.out.below (bl_alloc HB4.out))).mono ?_; rintro e w' ⟨rfl, hw'⟩; obtain rfl := hw'.symm)
            | (go_at_call 29; refine (size_any _ _ _ ds _ (HD.out.below (bl_alloc HB4.out))).mono ?_; rintro e w' ⟨rfl, hw'⟩; obtain rfl := hw'.symm)
            | (go_at_call 25; refine (reform_any _ _ _ _ ds _ _ _ (stepsV ds) _ _ _ es _ (HI4.out.below ((Below.refl _ _).alloc (Nat.le_refl _) _)) (HJ4.out.below ((Below.refl _ _).alloc (Nat.le_refl _) _)) (HE.out.below (bl_alloc HB4.out)) none).mono ?_; rintro e w5 ⟨hgv, hb⟩; rw [HE3.out] at hgv; obtain ⟨da5, dl5, dc5, sa5, sl5, sc5, rfl, _, _, _, _⟩ := hgv.gives; have HB5 := hide (Below.on (bl_alloc HB4.out) hb); clear hb hgv))
          go_ret
          exact ⟨rfl, bl_alloc HB5.out⟩
      · have c1 : (sizeE ds != 0) = true := by simp [hE]
        have HNE := hide hE
        clear hE
        go_wp2_with (go_at_call 9; refine (whole_any _ _ _ ds _ (HD.out.below HB.out) none).mono ?_; rintro e w4 ⟨hgv, hb⟩; obtain ⟨da4, dl4, dc4, sa4, sl4, sc4, rfl, _, _, _, _⟩ := hgv.gives; have HB4 := hide (Below.on HB.out hb); clear hb hgv)
        go_ret
        exact ⟨rfl, bl_alloc HB4.out⟩
end Go.Proofs.Ytfamaaahofjglaa.V
