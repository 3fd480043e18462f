/-
  Contract: view.Turn answers new lists.
-/
import Derived.Test.YtfamaaahofjglaaFlip
import Derived.Test.YtfamaaahofjglaaTurnAny
namespace Go.Proofs.Ytfamaaahofjglaa.V
open Go.RowKit

set_option maxRecDepth 100000 in
set_option maxHeartbeats 4000000 in
theorem turn_okF (s : Int) (da : Option Addr) (dl dc : Nat) (ds : List Int) (sa : Option Addr) (sc : Nat) (ss : List Int) (a : Option Addr) (cap : Nat) (ps : List Int) (w : World)
    (hd : Ints w da dl ds) (hs : Ints w sa dl ss) (hp : Ints w a dl ps) (hW : wrongE s ds ss = 0) (hP : PermOk ps dl) (h6 : dl ≤ 6) :
    Calls Try.prog 17 #[.agg #[.int .i64 s, .slice da dl dc, .slice sa dl sc], .slice a dl cap] w fun e w' => (∃ g1 g2 : Nat, e = .returned (.tuple #[.agg #[.int .i64 s, .slice (some ⟨g1, 0, none⟩) dl dl, .slice (some ⟨g2, 0, none⟩) dl dl], .int .i64 0]) ∧ (w.heap.size ≤ g1 ∧ w.heap.size ≤ g2) ∧ Ints w' (some ⟨g1, 0, none⟩) dl (taken ds ps) ∧ Ints w' (some ⟨g2, 0, none⟩) dl (taken ss ps)) ∧ Below w.heap.size w w' := by
  have HD := hide hd
  have HS := hide hs
  have HP := hide hp
  have HW := hide hW
  have HPO := hide hP
  clear hd hs hp hW hP
  have hb2 : Below w.heap.size w ((w.alloc (.cells #[.int .i64 s, .slice da dl dc, .slice sa dl sc] 24)).alloc (.cells #[.int .i64 0, .slice none 0 0, .slice none 0 0] 24)) := ((Below.refl _ _).alloc (Nat.le_refl _) _).alloc (by simp) _
  have HB2 := hide hb2
  clear hb2
  go_enter Try.func17, Try.ntmps17
  go_wp2_with fail
  refine (wrong_any _ _ _ _ ds _ _ _ ss _ (HD.out.below HB2.out) (HS.out.below HB2.out)).mono ?_
  rintro e w1 ⟨rfl, hb⟩
  rw [HW.out]
  have HB := hide (Below.on HB2.out hb)
  have hV1 : ViewAt w1 w.heap.size (.int .i64 s) (.slice da dl dc) (.slice sa dl sc) := ((ViewAt.new w _ _ _).alloc _).below hb
  have hR1 : ViewAt w1 (w.heap.size + 1) (.int .i64 0) (.slice none 0 0) (.slice none 0 0) := by
    have := (ViewAt.new (w.alloc (.cells #[.int .i64 s, .slice da dl dc, .slice sa dl sc] 24)) (.int .i64 0) (.slice none 0 0) (.slice none 0 0)).below hb
    simpa using this
  have HV1 := hide hV1
  have HR1 := hide hR1
  obtain ⟨⟨v0, v1, v2⟩, _⟩ := hV1.cells
  clear hb hV1 hR1
  go_wp2_with fail
  refine (permutes_any _ _ _ ps dl _ (HP.out.below HB.out) h6).mono ?_
  rintro e w2 ⟨⟨r, rfl, hr⟩, hb⟩
  obtain rfl : r = true := hr.2 HPO.out
  have HBa := hide (Below.on HB.out hb)
  have HV2 := hide (HV1.out.below hb)
  have HR2 := hide (HR1.out.below hb)
  obtain ⟨⟨v0', v1', v2'⟩, _⟩ := HV2.out.cells
  clear hb hr v0 v1 v2
  go_wp2_with fail
  refine (blank_any _ _ _ _ ds _ (HD.out.below HBa.out) h6).mono ?_
  rintro e w3 ⟨⟨g1, g2, rfl, ⟨hr1, hr2⟩, hne, hg1, hg2⟩, hb⟩
  have HBb := hide (Below.on HBa.out hb)
  have HV3 := hide (HV2.out.below hb)
  have HR3 := hide (HR2.out.below hb)
  have HR1' := hide hr1
  have HR2' := hide hr2
  have hlt1 := hr1.lt
  have hlt2 := hr2.lt
  have hsz := HR2.out.lt
  clear hb hr1 hr2 v0' v1' v2'
  go_wp2_with fail
  go_loopw [30] (fun i wr => ∃ k : Nat, k ≤ dl ∧ i = .int .i64 k ∧ (wr.rowIs g1 3 dl (onWay (taken ds ps) ds k) ∧ wr.rowIs g2 3 dl (onWay (taken ss ps) [] k)) ∧ (ViewAt wr w.heap.size (.int .i64 s) (.slice da dl dc) (.slice sa dl sc) ∧ ViewAt wr (w.heap.size + 1) (.int .i64 0) (.slice none 0 0) (.slice none 0 0) ∧ ViewAt wr w3.heap.size (.int .i64 s) (.slice (some ⟨g1, 0, none⟩) dl dl) (.slice (some ⟨g2, 0, none⟩) dl dl)) ∧ Below w.heap.size w wr) (fun i _ => dl - (intOf i).toNat)
  case atStart =>
    refine ⟨0, Nat.zero_le _, rfl, ⟨onWay_zero (HR1'.out.alloc _), ?_⟩, ⟨HV3.out.alloc _, HR3.out.alloc _, ViewAt.new w3 _ _ _⟩, HBb.out.alloc HBb.out.size _⟩
    exact (HR2'.out.alloc _).congr (fun j _ => by simp [onWay])
  case round =>
    obtain ⟨k, hk, rfl, ⟨hr1, hr2⟩, ⟨hv, hrr, ho⟩, hB⟩ := hrel
    have HQ1 := hide hr1
    have HQ2 := hide hr2
    have HV := hide hv
    have HRR := hide hrr
    have HO := hide ho
    have HBw := hide hB
    clear hr1 hr2 hv hrr ho hB
    by_cases hlt : k < dl
    · obtain ⟨pb, poff, rfl, hpb, hpc⟩ := HP.out.at (by omega)
      obtain ⟨db, doff, rfl, hdb, hdc⟩ := HD.out.at (by omega)
      obtain ⟨sb, soff, rfl, hsb, hsc⟩ := HS.out.at (by omega)
      have hpo := HPO.out.2 k hlt
      obtain ⟨m, hm⟩ : ∃ m : Nat, ps[k]?.getD 0 = (m : Int) := ⟨(ps[k]?.getD 0).toNat, by omega⟩
      have hmlt : m < dl := by omega
      have cp : wr.cell? ⟨pb, poff + k, none⟩ = some (.int .i64 (m : Int)) := by rw [← hm]; exact (HBw.out.cell (p := ⟨pb, poff + k, none⟩) hpb).trans (hpc k hlt)
      have cd : wr.cell? ⟨db, doff + m, none⟩ = some (.int .i64 (ds[m]?.getD 0)) := (HBw.out.cell (p := ⟨db, doff + m, none⟩) hdb).trans (hdc m hmlt)
      have cs : wr.cell? ⟨sb, soff + m, none⟩ = some (.int .i64 (ss[m]?.getD 0)) := (HBw.out.cell (p := ⟨sb, soff + m, none⟩) hsb).trans (hsc m hmlt)
      have HPL : Hid (k < ps.length) := by rw [Hid, HPO.out.1]; exact hlt
      have HM := hide hm
      obtain ⟨⟨v0, v1, v2⟩, _⟩ := HV.out.cells
      obtain ⟨⟨o0, o1, o2⟩, _⟩ := HO.out.cells
      have c1 := HQ1.out.cell hlt
      have f1 := HQ1.out.frozen k
      have c2 := HQ2.out.cell hlt
      have f2 := HQ2.out.frozen k
      have i1 : (0 : Int) ≤ (k : Int) := Int.natCast_nonneg _
      have i2 : (k : Int) < (dl : Int) := by omega
      have i3 : (0 : Int) ≤ (m : Int) := Int.natCast_nonneg _
      have i4 : (m : Int) < (dl : Int) := by omega
      clear hpc hdc hsc hm hpo
      go_wp2_with fail
      go_region
      go_wp2
      go_roundw
      case rel =>
        have hg1 : g1 ≠ w3.heap.size := by omega
        have hg2 : g2 ≠ w3.heap.size := by omega
        have e1 := taken_getD ds ps k m HPL.out HM.out
        have e2 := taken_getD ss ps k m HPL.out HM.out
        refine ⟨k + 1, by omega, by go_num, ⟨?_, ?_⟩, ⟨?_, ?_, ?_⟩, ?_⟩
        · refine ((HQ1.out.set k (.int .i64 (ds[m]?.getD 0))).setOther (a := ⟨g2, k, none⟩) hne _).congr (fun j _ => ?_)
          rw [← e1]; exact onWay_succ _ _ k j
        · refine ((HQ2.out.setOther (a := ⟨g1, k, none⟩) (Ne.symm hne) _).set k (.int .i64 (ss[m]?.getD 0))).congr (fun j _ => ?_)
          rw [← e2]; exact onWay_succ _ _ k j
        · exact (HV.out.set (p := ⟨g1, k, none⟩) (by simp; omega) _).set (p := ⟨g2, k, none⟩) (by simp; omega) _
        · exact (HRR.out.set (p := ⟨g1, k, none⟩) (by simp; omega) _).set (p := ⟨g2, k, none⟩) (by simp; omega) _
        · exact (HO.out.set (p := ⟨g1, k, none⟩) (by simp; omega) _).set (p := ⟨g2, k, none⟩) (by simp; omega) _
        · exact ((HBw.out.setCell (p := ⟨g1, k, none⟩) (by simp; omega) _).setCell (p := ⟨g2, k, none⟩) (by simp; omega) _).drew
      case measure => simp [intOf]; omega
    · obtain rfl : k = dl := by omega
      obtain ⟨⟨o0, o1, o2⟩, _⟩ := HO.out.cells
      have hfar : beyondB s (taken ss ps) = false := turn_far HW.out HPO.out (by have := HS.out.1; omega)
      have HF := hide hfar
      have hi1 : Ints wr (some ⟨g1, 0, none⟩) k (taken ds ps) := ints_of_rowI (onWay_all HQ1.out) (by rw [taken_length, HPO.out.1]) (by omega) (taken_bd HD.out.2.2.1)
      have hi2 : Ints wr (some ⟨g2, 0, none⟩) k (taken ss ps) := ints_of_rowI (onWay_all HQ2.out) (by rw [taken_length, HPO.out.1]) (by omega) (taken_bd HS.out.2.2.1)
      have HI1 := hide hi1
      have HI2 := hide hi2
      clear hfar hi1 hi2
      go_wp2_with fail
      refine (reached_any _ _ _ _ _ _ _ (taken ss ps) _ HI2.out).mono ?_
      rintro e w4 ⟨rfl, hb⟩
      rw [if_neg (by rw [HF.out]; simp)]
      have HBc := hide (Below.on HBw.out hb)
      have HRR4 := hide (HRR.out.below hb)
      have HI1' := hide (HI1.out.below hb)
      have HI2' := hide (HI2.out.below hb)
      obtain ⟨⟨r0, r1, r2⟩, rf0, rf1, rf2⟩ := HRR4.out.cells
      clear hb o0 o1 o2
      go_wp2
      refine bodyPost_ret (v := .tuple #[.agg #[.int .i64 s, .slice (some ⟨g1, 0, none⟩) k k, .slice (some ⟨g2, 0, none⟩) k k], .int .i64 0]) (by simp [results, Try.results17, go_sem, r0, r1, r2]) rfl ⟨⟨g1, g2, rfl, ⟨by omega, by omega⟩, ?_, ?_⟩, ?_⟩
      · exact ints_set3 HI1'.out (by omega)
      · exact ints_set3 HI2'.out (by omega)
      · exact ((HBc.out.setCell (p := ⟨w.heap.size + 1, 0, none⟩) (by simp) _).setCell (p := ⟨w.heap.size + 1, 1, none⟩) (by simp) _).setCell (p := ⟨w.heap.size + 1, 2, none⟩) (by simp) _

theorem turn_anyF (s : Int) (da : Option Addr) (dl dc : Nat) (ds : List Int) (sa : Option Addr) (sl sc : Nat) (ss : List Int) (a : Option Addr) (len cap : Nat) (ps : List Int) (w : World)
    (hd : Ints w da dl ds) (hs : Ints w sa sl ss) (hp : Ints w a len ps) :
    Calls Try.prog 17 #[.agg #[.int .i64 s, .slice da dl dc, .slice sa sl sc], .slice a len cap] w fun e w' => GivesF w da e w' (okS (turnE s ds ss ps) s) (okL (turnE s ds ss ps) (taken ds ps)) (okL (turnE s ds ss ps) (taken ss ps)) (turnE s ds ss ps) ∧ Below w.heap.size w w' := by
  by_cases hW : wrongE s ds ss ≠ 0
  · have e : turnE s ds ss ps = wrongE s ds ss := by simp [turnE, hW]
    rw [e]
    refine (turn_wrong s da dl dc ds sa sl sc ss a len cap w hd hs hW).mono ?_
    rintro e w' ⟨rfl, hb⟩
    simp only [okS, okL, if_neg hW]
    exact ⟨givesF_none _ _ _ _, hb⟩
  replace hW : wrongE s ds ss = 0 := by simpa using hW
  obtain ⟨w1, w2, _⟩ := wrongE_ok hW
  have h6 := (sizeE_ok w1).1
  have ld := hd.1
  have ls := hs.1
  by_cases hP : PermOk ps dl
  · have e : turnE s ds ss ps = 0 := by simp [turnE, hW, ld, (permB_iff ps dl).2 hP]
    rw [e]
    obtain rfl : sl = dl := by omega
    obtain rfl : len = sl := by rw [← hp.1]; exact hP.1
    refine (turn_okF s da len dc ds sa sc ss a cap ps w hd hs hp hW hP (by omega)).mono ?_
    rintro e w' ⟨⟨g1, g2, rfl, ⟨l1, l2⟩, h1, h2⟩, hb⟩
    simp only [okS, okL]
    exact ⟨⟨_, _, _, _, _, _, rfl, h1, h2, ⟨Nat.le_refl _, Nat.le_refl _⟩, .inr (far_some l1), far_some l2⟩, hb⟩
  · have e : turnE s ds ss ps = 6 := by
      have : permB ps dl = false := by
        cases c : permB ps dl with
        | true => exact absurd ((permB_iff ps dl).1 c) hP
        | false => rfl
      simp [turnE, hW, ld, this]
    rw [e]
    refine (turn_shape s da dl dc ds sa sl sc ss a len cap ps w hd hs hp hW hP (by omega)).mono ?_
    rintro e w' ⟨rfl, hb⟩
    exact ⟨givesF_none _ _ _ _, hb⟩
end Go.Proofs.Ytfamaaahofjglaa.V
