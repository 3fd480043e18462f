/-
  Contract: adjointref1.Spread.
-/
import Derived.Test.YtfamaaahofjglaaSpreadAny
namespace Go.Proofs.Ytfamaaahofjglaa.V
open Go.RowKit

set_option maxRecDepth 100000 in
set_option maxHeartbeats 4000000 in
theorem rspread_ok (s : Int) (da : Option Addr) (dl dc : Nat) (ds : List Int) (sa : Option Addr) (sc : Nat) (ss : List Int) (ea : Option Addr) (el ec : Nat) (es : List Int) (pa : Option Addr) (pc : Nat) (ps : List Int) (w : World)
    (hd : Ints w da dl ds) (hs : Ints w sa dl ss) (he : Ints w ea el es) (hp : Ints w pa dl ps) (hW : wrongE s ds ss = 0) (hE : sizeE es = 0) (hP : RiseOk ps el) (h6 : dl ≤ 6) (h6e : el ≤ 6) (hcap : el ≤ ec) :
    Calls Try.prog 24 #[.agg #[.int .i64 s, .slice da dl dc, .slice sa dl sc], .slice ea el ec, .slice pa dl pc] w fun e w' => SprPost w ea s ds ss es ps e w' ∧ Below w.heap.size w w' := by
  have HSM := hide (small_of hW)
  have HD := hide hd
  have HS := hide hs
  have HE := hide he
  have HP := hide hp
  have HW := hide hW
  have HZ := hide hE
  have HPO := hide hP
  clear hd hs he hp hW hE hP
  have hb2 : Below w.heap.size w ((w.alloc (.cells #[.int .i64 s, .slice da dl dc, .slice sa dl sc] 24)).alloc (.cells #[.int .i64 0, .slice none 0 0, .slice none 0 0] 24)) := ((Below.refl _ _).alloc (Nat.le_refl _) _).alloc (by simp) _
  have HB2 := hide hb2
  clear hb2
  have hmk := run_make_row' (P := Try.prog) 22 3 (.int .i64 0) 8 Try.underlying22 info_int rfl .i64 .i64 el (by omega) (by omega)
  go_enter Try.func24, Try.ntmps24
  go_wp2_with fail
  refine (rwrong_any _ _ _ _ ds _ _ _ ss _ (HD.out.below HB2.out) (HS.out.below HB2.out)).mono ?_
  rintro e w1 ⟨rfl, hb⟩
  rw [HW.out]
  have HB := hide (Below.on HB2.out hb)
  have hV1 : ViewAt w1 w.heap.size (.int .i64 s) (.slice da dl dc) (.slice sa dl sc) := ((ViewAt.new w _ _ _).alloc _).below hb
  have hR1 : ViewAt w1 (w.heap.size + 1) (.int .i64 0) (.slice none 0 0) (.slice none 0 0) := by
    have := (ViewAt.new (w.alloc (.cells #[.int .i64 s, .slice da dl dc, .slice sa dl sc] 24)) (.int .i64 0) (.slice none 0 0) (.slice none 0 0)).below hb
    simpa using this
  have HV1 := hide hV1
  have HR1 := hide hR1
  have hwl := hR1.lt
  have hwl0 := hV1.lt
  obtain ⟨⟨v0, v1, v2⟩, _⟩ := hV1.cells
  clear hb hV1 hR1
  go_wp2_with fail
  refine (rsize_any _ _ _ es _ (HE.out.below HB.out)).mono ?_
  rintro e w2 ⟨rfl, hw⟩
  obtain rfl := hw.symm
  clear hw
  rw [HZ.out]
  go_wp2_with fail
  refine (rrising_any _ _ _ ps el _ (HP.out.below HB.out) h6e).mono ?_
  rintro e w2 ⟨⟨r, rfl, hr⟩, hw⟩
  obtain rfl := hw.symm
  obtain rfl : r = true := hr.2 HPO.out
  clear hr hw
  go_wp2_with fail
  go_cut [11] (fun p wc => ∃ C g : Nat, p = .pointer (some ⟨C, 0, none⟩) ∧ wc.rowIs g 3 el (fun _ => .int .i64 0) ∧ (ViewAt wc w.heap.size (.int .i64 s) (.slice da dl dc) (.slice sa dl sc) ∧ ViewAt wc (w.heap.size + 1) (.int .i64 0) (.slice none 0 0) (.slice none 0 0) ∧ ViewAt wc C (.int .i64 s) (.slice ea el ec) (.slice (some ⟨g, 0, none⟩) el el)) ∧ ((w.heap.size + 1 < C ∧ w.heap.size + 1 < g) ∧ g ≠ C) ∧ Below w.heap.size w wc)
  case first =>
    go_region
    all_goals go_wp2
    all_goals go_meet
    · refine ⟨w1.heap.size + 1, w1.heap.size, rfl, ((World.rowIs_made w1 (.int .i64 0) el 3).alloc _).drew, ⟨(HV1.out.alloc _).alloc _, (HR1.out.alloc _).alloc _, ?_⟩, ⟨⟨by omega, by omega⟩, by omega⟩, ((HB.out.alloc HB.out.size _).alloc (by simp; omega) _).drew⟩
      have := ViewAt.new (w1.alloc (Obj.cells (madeCells #[Value.int IntKind.i64 0] el) 3)) (.int .i64 s) (.slice ea el ec) (.slice (some ⟨w1.heap.size, 0, none⟩) el el)
      simp only [World.size_alloc] at this
      exact this
    · refine ⟨w1.heap.size, w1.heap.size + 1, rfl, ?_, ⟨(HV1.out.alloc _).alloc _, (HR1.out.alloc _).alloc _, (ViewAt.new w1 _ _ _).alloc _⟩, ⟨⟨by omega, by omega⟩, by omega⟩, ((HB.out.alloc HB.out.size _).alloc (by simp; omega) _).drew⟩
      have := World.rowIs_made (w1.alloc (.cells #[.int .i64 s, .slice ea el ec, .slice (some ⟨w1.heap.size + 1, 0, none⟩) el el] 24)) (.int .i64 0) el 3
      simp only [World.size_alloc] at this
      exact this.drew
  case rest =>
    obtain ⟨C, g2, rfl, hr2, ⟨hv, hrr, ho⟩, ⟨⟨l0, l2⟩, n2⟩, hB⟩ := hcut
    have HQ2 := hide hr2
    have HV := hide hv
    have HRR := hide hrr
    have HO := hide ho
    have HBc := hide hB
    clear hr2 hv hrr ho hB v0 v1 v2 HV1 HR1 HB hmk
    go_wp2_with fail
    go_loopw [52] (fun i wr => ∃ k : Nat, k ≤ dl ∧ i = .int .i64 k ∧ (∀ j, j < k → misAt ds es ps j = false) ∧ wr.rowIs g2 3 el (fun j => .int .i64 (sprV ss ps k j)) ∧ (ViewAt wr w.heap.size (.int .i64 s) (.slice da dl dc) (.slice sa dl sc) ∧ ViewAt wr (w.heap.size + 1) (.int .i64 0) (.slice none 0 0) (.slice none 0 0) ∧ ViewAt wr C (.int .i64 s) (.slice ea el ec) (.slice (some ⟨g2, 0, none⟩) el el)) ∧ Below w.heap.size w wr) (fun i _ => dl - (intOf i).toNat)
    case atStart => exact ⟨0, Nat.zero_le _, rfl, by simp, HQ2.out, ⟨HV.out, HRR.out, HO.out⟩, HBc.out⟩
    case round =>
      clear HQ2 HV HRR HO HBc
      obtain ⟨k, hk, rfl, hgood, hr2, ⟨hv, hrr, ho⟩, hB⟩ := hrel
      have HGD := hide hgood
      have HQ2 := hide hr2
      have HV := hide hv
      have HRR := hide hrr
      have HO := hide ho
      have HBw := hide hB
      clear hgood hr2 hv hrr ho hB
      by_cases hlt : k < dl
      · have hpe := HP.out.1
        have hpo := HPO.out k (by omega)
        obtain ⟨db, doff, rfl, hdb, hdc⟩ := HD.out.at (by omega)
        obtain ⟨sb, soff, rfl, hsb, hsc⟩ := HS.out.at (by omega)
        obtain ⟨eb, eoff, rfl, heb, hec⟩ := HE.out.at (by omega)
        obtain ⟨pb, poff, rfl, hpb, hpc⟩ := HP.out.at (by omega)
        obtain ⟨m, hm⟩ : ∃ m : Nat, ps[k]?.getD 0 = (m : Int) := ⟨(ps[k]?.getD 0).toNat, by omega⟩
        have hmlt : m < el := by omega
        have HM := hide hm
        obtain ⟨X, hX⟩ : ∃ X, X = ds[k]?.getD 0 := ⟨_, rfl⟩
        obtain ⟨T, hT⟩ : ∃ T, T = ss[k]?.getD 0 := ⟨_, rfl⟩
        obtain ⟨Z, hZ⟩ : ∃ Z, Z = es[m]?.getD 0 := ⟨_, rfl⟩
        have cd : wr.cell? ⟨db, doff + k, none⟩ = some (.int .i64 X) := by rw [hX]; exact (HBw.out.cell (p := ⟨db, doff + k, none⟩) hdb).trans (hdc k hlt)
        have cs : wr.cell? ⟨sb, soff + k, none⟩ = some (.int .i64 T) := by rw [hT]; exact (HBw.out.cell (p := ⟨sb, soff + k, none⟩) hsb).trans (hsc k hlt)
        have ce : wr.cell? ⟨eb, eoff + m, none⟩ = some (.int .i64 Z) := by rw [hZ]; exact (HBw.out.cell (p := ⟨eb, eoff + m, none⟩) heb).trans (hec m hmlt)
        have cp : wr.cell? ⟨pb, poff + k, none⟩ = some (.int .i64 (m : Int)) := by rw [← hm]; exact (HBw.out.cell (p := ⟨pb, poff + k, none⟩) hpb).trans (hpc k hlt)
        have hmis : misAt ds es ps k = decide (X ≠ Z) := by rw [misAt, hm, Int.toNat_natCast, ← hX, ← hZ]
        have HMIS := hide hmis
        have HT := hide hT
        have HPL : Hid (k < ps.length) := by rw [Hid]; omega
        obtain ⟨⟨v0, v1, v2⟩, _⟩ := HV.out.cells
        obtain ⟨⟨o0, o1, o2⟩, p0, p1, p2⟩ := HO.out.cells
        have c2 := HQ2.out.cell hmlt
        have f2 := HQ2.out.frozen m
        have i1 : (0 : Int) ≤ (k : Int) := Int.natCast_nonneg _
        have i2 : (k : Int) < (dl : Int) := by omega
        have i3 : (0 : Int) ≤ (m : Int) := Int.natCast_nonneg _
        have i4 : (m : Int) < (el : Int) := by omega
        clear hdc hsc hec hpc hm hpo hX hT hZ hmis hpe
        go_wp2_with fail
        by_cases hXZ : X = Z
        · subst hXZ
          go_quiet (fail)
          go_wp2_with fail
          go_region
          go_wp2
          go_roundw
          case measure => simp [intOf]; omega
          case rel =>
            refine ⟨k + 1, by omega, by go_num, ?_, ?_, ⟨?_, ?_, ?_⟩, ?_⟩
            · intro j hj
              by_cases e : j = k
              · subst e; rw [HMIS.out]; simp
              · exact HGD.out j (by omega)
            · refine ((World.rowIs.of_block HQ2.out rfl : (wr.drewN (nq + 1)).rowIs g2 3 el _).set m (.int .i64 T)).congr (fun j _ => ?_)
              rw [sprV, HM.out, Int.toNat_natCast, ← HT.out]
              split <;> rfl
            · exact (show ViewAt (wr.drewN (nq + 1)) _ _ _ _ from HV.out).set (p := ⟨g2, m, none⟩) (by simp; omega) _
            · exact (show ViewAt (wr.drewN (nq + 1)) _ _ _ _ from HRR.out).set (p := ⟨g2, m, none⟩) (by simp; omega) _
            · exact (show ViewAt (wr.drewN (nq + 1)) _ _ _ _ from HO.out).set (p := ⟨g2, m, none⟩) (by simp; omega) _
            · exact (below_drewN' HBw.out (nq + 1)).setCell (p := ⟨g2, m, none⟩) (by simp; omega) _
        · have q : (Z != X) = true := by simp; exact fun e => hXZ e.symm
          have HXZ := hide hXZ
          clear hXZ
          obtain ⟨⟨r0, r1, r2⟩, rf0, rf1, rf2⟩ := HRR.out.cells
          go_quiet (fail)
          go_wp2
          refine bodyPost_ret (v := .tuple #[.agg #[.int .i64 0, .slice none 0 0, .slice none 0 0], .int .i64 6]) (by simp [results, Try.results24, go_sem, r0, r1, r2]) rfl ⟨?_, below_put (below_drewN' HBw.out _) (by omega)⟩
          rw [SprPost, if_pos (anyMis_true k HPL.out (by rw [HMIS.out]; simpa using HXZ.out))]
          exact givesF_none _ _ _ _
      · obtain rfl : k = dl := by omega
        obtain ⟨⟨o0, o1, o2⟩, _⟩ := HO.out.cells
        obtain ⟨⟨r0, r1, r2⟩, rf0, rf1, rf2⟩ := HRR.out.cells
        have hpe := HP.out.1
        have hnm : anyMis ds es ps = false := anyMis_false (fun j hj => HGD.out j (by omega))
        have hls : ps.length ≤ ss.length := by rw [hpe, HS.out.1]; exact Nat.le_refl _
        have hi2 : Ints wr (some ⟨g2, 0, none⟩) el (sprS es.length ss ps) := by
          refine ints_of_rowI (World.rowIs.congr HQ2.out (fun j hj => ?_)) (by rw [sprS_length, HE.out.1]) (by omega) (sprS_bd HSM.out hls)
          rw [sprS_getD es.length ss ps j (by rw [HE.out.1]; exact hj), hpe]
        have HNM := hide hnm
        have HI2 := hide hi2
        clear hnm hls hi2 hpe
        go_wp2
        refine bodyPost_ret (v := .tuple #[.agg #[.int .i64 s, .slice ea el ec, .slice (some ⟨g2, 0, none⟩) el el], .int .i64 0]) (by simp [results, Try.results24, go_sem, r0, r1, r2]) rfl ⟨?_, below_put HBw.out (by omega)⟩
        rw [SprPost, if_neg (by rw [HNM.out]; simp)]
        exact ⟨_, _, _, _, _, _, rfl, HE.out.below (below_put HBw.out (by omega)), ints_set3 (B := w.heap.size + 1) HI2.out (by omega), ⟨hcap, Nat.le_refl _⟩, .inl rfl, far_some (by omega)⟩
end Go.Proofs.Ytfamaaahofjglaa.V
