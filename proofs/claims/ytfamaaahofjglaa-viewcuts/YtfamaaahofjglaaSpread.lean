/-
  Contract: view.Spread.
-/
import Derived.Test.YtfamaaahofjglaaCutAny
namespace Go.Proofs.Ytfamaaahofjglaa.V
open Go.RowKit

/-- The step of a new dimension, when the first i are laid. -/
def sprV (ss ps : List Int) : Nat → Nat → Int
  | 0, _ => 0
  | i + 1, j => if j = (ps[i]?.getD 0).toNat then ss[i]?.getD 0 else sprV ss ps i j
def sprS (el : Nat) (ss ps : List Int) : List Int := (List.range el).map (sprV ss ps ps.length)
def misAt (ds es ps : List Int) (k : Nat) : Bool := decide (ds[k]?.getD 0 ≠ es[(ps[k]?.getD 0).toNat]?.getD 0)
def anyMis (ds es ps : List Int) : Bool := (List.range ps.length).any (misAt ds es ps)
theorem sprS_length (el : Nat) (ss ps : List Int) : (sprS el ss ps).length = el := by simp [sprS]
theorem sprS_getD (el : Nat) (ss ps : List Int) (j : Nat) (h : j < el) : (sprS el ss ps)[j]?.getD 0 = sprV ss ps ps.length j := by simp [sprS, h]
theorem anyMis_false {ds es ps : List Int} (h : ∀ j, j < ps.length → misAt ds es ps j = false) : anyMis ds es ps = false := by
  unfold anyMis
  rw [List.any_eq_false]
  intro j hj
  rw [h j (List.mem_range.1 hj)]; simp
theorem anyMis_true {ds es ps : List Int} (k : Nat) (hk : k < ps.length) (h : misAt ds es ps k = true) : anyMis ds es ps = true := by
  unfold anyMis
  rw [List.any_eq_true]
  exact ⟨k, List.mem_range.2 hk, h⟩
theorem sprV_or (ss ps : List Int) (j : Nat) : ∀ i, i ≤ ss.length → sprV ss ps i j = 0 ∨ sprV ss ps i j ∈ ss
  | 0, _ => .inl rfl
  | i + 1, h => by
    rw [sprV]
    split
    · exact .inr (mem_getD ss i (by omega))
    · exact sprV_or ss ps j i (by omega)
theorem spr_far {s : Int} {ds ss ps : List Int} {el : Nat} (hW : wrongE s ds ss = 0) (hl : ps.length ≤ ss.length) : beyondB s (sprS el ss ps) = false := by
  obtain ⟨_, _, h3⟩ := wrongE_ok hW
  simp only [beyondB, Bool.or_eq_false_iff] at h3 ⊢
  refine ⟨h3.1, ?_⟩
  have h4 := h3.2
  rw [List.any_eq_false] at h4 ⊢
  intro x hx
  simp only [sprS, List.mem_map, List.mem_range] at hx
  obtain ⟨j, hj, rfl⟩ := hx
  rcases sprV_or ss ps j ps.length hl with h | h
  · rw [h]; simp [farB]
  · exact h4 _ h
theorem sprS_bd {s : Int} {ds ss ps : List Int} {el : Nat} (h : Small s ds ss) (hl : ps.length ≤ ss.length) : ∀ x ∈ sprS el ss ps, -9223372036854775808 ≤ x ∧ x ≤ 9223372036854775807 := by
  intro x hx
  simp only [sprS, List.mem_map, List.mem_range] at hx
  obtain ⟨j, hj, rfl⟩ := hx
  rcases sprV_or ss ps j ps.length hl with e | e
  · rw [e]; omega
  · have := h.steps _ e; omega
def SprPost (w : World) (ea : Option Addr) (s : Int) (ds ss es ps : List Int) (e : Ending) (w' : World) : Prop := if anyMis ds es ps = true then GivesF w ea e w' 0 [] [] 6 else GivesF w ea e w' s es (sprS es.length ss ps) 0

set_option maxRecDepth 100000 in
set_option maxHeartbeats 4000000 in
theorem spread_ok (s : Int) (da : Option Addr) (dl dc : Nat) (ds : List Int) (sa : Option Addr) (sc : Nat) (ss : List Int) (ea : Option Addr) (el ec : Nat) (es : List Int) (pa : Option Addr) (pc : Nat) (ps : List Int) (w : World)
    (hd : Ints w da dl ds) (hs : Ints w sa dl ss) (he : Ints w ea el es) (hp : Ints w pa dl ps) (hW : wrongE s ds ss = 0) (hE : sizeE es = 0) (hP : RiseOk ps el) (h6 : dl ≤ 6) (h6e : el ≤ 6) :
    Calls Try.prog 23 #[.agg #[.int .i64 s, .slice da dl dc, .slice sa dl sc], .slice ea el ec, .slice pa dl pc] w fun e w' => SprPost w ea s ds ss es ps e w' ∧ Below w.heap.size w w' := by
  have HSM := hide (small_of hW)
  have HD := hide hd
  have HS := hide hs
  have HE := hide he
  have HP := hide hp
  have HW := hide hW
  have HZ := hide hE
  have HPO := hide hP
  clear hd hs he hp hW hE hP
  have hb2 : Below w.heap.size w ((w.alloc (.cells #[.int .i64 s, .slice da dl dc, .slice sa dl sc] 24)).alloc (.cells #[.int .i64 0, .slice none 0 0, .slice none 0 0] 24)) := ((Below.refl _ _).alloc (Nat.le_refl _) _).alloc (by simp) _
  have HB2 := hide hb2
  clear hb2
  go_enter Try.func23, Try.ntmps23
  go_wp2_with fail
  refine (wrong_any _ _ _ _ ds _ _ _ ss _ (HD.out.below HB2.out) (HS.out.below HB2.out)).mono ?_
  rintro e w1 ⟨rfl, hb⟩
  rw [HW.out]
  have HB := hide (Below.on HB2.out hb)
  have hV1 : ViewAt w1 w.heap.size (.int .i64 s) (.slice da dl dc) (.slice sa dl sc) := ((ViewAt.new w _ _ _).alloc _).below hb
  have hR1 : ViewAt w1 (w.heap.size + 1) (.int .i64 0) (.slice none 0 0) (.slice none 0 0) := by
    have := (ViewAt.new (w.alloc (.cells #[.int .i64 s, .slice da dl dc, .slice sa dl sc] 24)) (.int .i64 0) (.slice none 0 0) (.slice none 0 0)).below hb
    simpa using this
  have HV1 := hide hV1
  have HR1 := hide hR1
  obtain ⟨⟨v0, v1, v2⟩, _⟩ := hV1.cells
  clear hb hV1 hR1
  go_wp2_with fail
  refine (size_any _ _ _ es _ (HE.out.below HB.out)).mono ?_
  rintro e w2 ⟨rfl, hw⟩
  obtain rfl := hw.symm
  clear hw
  rw [HZ.out]
  go_wp2_with fail
  refine (rises_any _ _ _ ps el _ (HP.out.below HB.out) h6e).mono ?_
  rintro e w2 ⟨⟨r, rfl, hr⟩, hw⟩
  obtain rfl := hw.symm
  obtain rfl : r = true := hr.2 HPO.out
  clear hr hw
  go_wp2_with fail
  refine (blank_any _ _ _ _ es _ (HE.out.below HB.out) h6e).mono ?_
  rintro e w3 ⟨⟨g1, g2, rfl, ⟨hr1, hr2⟩, hne, hg1, hg2⟩, hb⟩
  have HBb := hide (Below.on HB.out hb)
  have HV3 := hide (HV1.out.below hb)
  have HR3 := hide (HR1.out.below hb)
  have HR1' := hide hr1
  have HR2' := hide hr2
  have hlt1 := hr1.lt
  have hlt2 := hr2.lt
  have hsz := HR1.out.lt
  clear hb hr1 hr2 v0 v1 v2
  go_wp2_with fail
  go_loopw [49] (fun i wr => ∃ k : Nat, k ≤ dl ∧ i = .int .i64 k ∧ (∀ j, j < k → misAt ds es ps j = false) ∧ (wr.rowIs g1 3 el (fun j => .int .i64 (es[j]?.getD 0)) ∧ wr.rowIs g2 3 el (fun j => .int .i64 (sprV ss ps k j))) ∧ (ViewAt wr w.heap.size (.int .i64 s) (.slice da dl dc) (.slice sa dl sc) ∧ ViewAt wr (w.heap.size + 1) (.int .i64 0) (.slice none 0 0) (.slice none 0 0) ∧ ViewAt wr w3.heap.size (.int .i64 s) (.slice (some ⟨g1, 0, none⟩) el el) (.slice (some ⟨g2, 0, none⟩) el el)) ∧ Below w.heap.size w wr) (fun i _ => dl - (intOf i).toNat)
  case atStart =>
    refine ⟨0, Nat.zero_le _, rfl, by simp, ⟨HR1'.out.alloc _, ?_⟩, ⟨HV3.out.alloc _, HR3.out.alloc _, ViewAt.new w3 _ _ _⟩, HBb.out.alloc HBb.out.size _⟩
    exact HR2'.out.alloc _
  case round =>
    obtain ⟨k, hk, rfl, hgood, ⟨hr1, hr2⟩, ⟨hv, hrr, ho⟩, hB⟩ := hrel
    have HGD := hide hgood
    have HQ1 := hide hr1
    have HQ2 := hide hr2
    have HV := hide hv
    have HRR := hide hrr
    have HO := hide ho
    have HBw := hide hB
    clear hgood hr1 hr2 hv hrr ho hB
    by_cases hlt : k < dl
    · have hpe := HP.out.1
      have hpo := HPO.out k (by omega)
      obtain ⟨db, doff, rfl, hdb, hdc⟩ := HD.out.at (by omega)
      obtain ⟨sb, soff, rfl, hsb, hsc⟩ := HS.out.at (by omega)
      obtain ⟨eb, eoff, rfl, heb, hec⟩ := HE.out.at (by omega)
      obtain ⟨pb, poff, rfl, hpb, hpc⟩ := HP.out.at (by omega)
      obtain ⟨m, hm⟩ : ∃ m : Nat, ps[k]?.getD 0 = (m : Int) := ⟨(ps[k]?.getD 0).toNat, by omega⟩
      have hmlt : m < el := by omega
      have HM := hide hm
      obtain ⟨X, hX⟩ : ∃ X, X = ds[k]?.getD 0 := ⟨_, rfl⟩
      obtain ⟨T, hT⟩ : ∃ T, T = ss[k]?.getD 0 := ⟨_, rfl⟩
      obtain ⟨Z, hZ⟩ : ∃ Z, Z = es[m]?.getD 0 := ⟨_, rfl⟩
      have cd : wr.cell? ⟨db, doff + k, none⟩ = some (.int .i64 X) := by rw [hX]; exact (HBw.out.cell (p := ⟨db, doff + k, none⟩) hdb).trans (hdc k hlt)
      have cs : wr.cell? ⟨sb, soff + k, none⟩ = some (.int .i64 T) := by rw [hT]; exact (HBw.out.cell (p := ⟨sb, soff + k, none⟩) hsb).trans (hsc k hlt)
      have ce : wr.cell? ⟨eb, eoff + m, none⟩ = some (.int .i64 Z) := by rw [hZ]; exact (HBw.out.cell (p := ⟨eb, eoff + m, none⟩) heb).trans (hec m hmlt)
      have cp : wr.cell? ⟨pb, poff + k, none⟩ = some (.int .i64 (m : Int)) := by rw [← hm]; exact (HBw.out.cell (p := ⟨pb, poff + k, none⟩) hpb).trans (hpc k hlt)
      have hmis : misAt ds es ps k = decide (X ≠ Z) := by rw [misAt, hm, Int.toNat_natCast, ← hX, ← hZ]
      have HMIS := hide hmis
      have HT := hide hT
      have HPL : Hid (k < ps.length) := by rw [Hid]; omega
      obtain ⟨⟨v0, v1, v2⟩, _⟩ := HV.out.cells
      obtain ⟨⟨o0, o1, o2⟩, p0, p1, p2⟩ := HO.out.cells
      have c2 := HQ2.out.cell hmlt
      have f2 := HQ2.out.frozen m
      have i1 : (0 : Int) ≤ (k : Int) := Int.natCast_nonneg _
      have i2 : (k : Int) < (dl : Int) := by omega
      have i3 : (0 : Int) ≤ (m : Int) := Int.natCast_nonneg _
      have i4 : (m : Int) < (el : Int) := by omega
      clear hdc hsc hec hpc hm hpo hX hT hZ hmis hpe
      go_wp2_with fail
      by_cases hXZ : X = Z
      · subst hXZ
        go_quiet (fail)
        go_wp2_with fail
        go_region
        go_wp2
        go_roundw
        case measure => simp [intOf]; omega
        case rel =>
          refine ⟨k + 1, by omega, by go_num, ?_, ⟨?_, ?_⟩, ⟨?_, ?_, ?_⟩, ?_⟩
          · intro j hj
            by_cases e : j = k
            · subst e; rw [HMIS.out]; simp
            · exact HGD.out j (by omega)
          · exact (World.rowIs.of_block HQ1.out rfl : (wr.drewN (nq + 1)).rowIs g1 3 el _).setOther (a := ⟨g2, m, none⟩) hne _
          · refine ((World.rowIs.of_block HQ2.out rfl : (wr.drewN (nq + 1)).rowIs g2 3 el _).set m (.int .i64 T)).congr (fun j _ => ?_)
            rw [sprV, HM.out, Int.toNat_natCast, ← HT.out]
            split <;> rfl
          · exact (show ViewAt (wr.drewN (nq + 1)) _ _ _ _ from HV.out).set (p := ⟨g2, m, none⟩) (by simp; omega) _
          · exact (show ViewAt (wr.drewN (nq + 1)) _ _ _ _ from HRR.out).set (p := ⟨g2, m, none⟩) (by simp; omega) _
          · exact (show ViewAt (wr.drewN (nq + 1)) _ _ _ _ from HO.out).set (p := ⟨g2, m, none⟩) (by simp; omega) _
          · exact (below_drewN' HBw.out (nq + 1)).setCell (p := ⟨g2, m, none⟩) (by simp; omega) _
      · have q : (X != Z) = true := by simp [hXZ]
        have HXZ := hide hXZ
        clear hXZ
        obtain ⟨⟨r0, r1, r2⟩, rf0, rf1, rf2⟩ := HRR.out.cells
        go_quiet (fail)
        go_wp2
        refine bodyPost_ret (v := .tuple #[.agg #[.int .i64 0, .slice none 0 0, .slice none 0 0], .int .i64 6]) (by simp [results, Try.results23, go_sem, r0, r1, r2]) rfl ⟨?_, below_put (below_drewN' HBw.out _) (by omega)⟩
        rw [SprPost, if_pos (anyMis_true k HPL.out (by rw [HMIS.out]; simpa using HXZ.out))]
        exact givesF_none _ _ _ _
    · obtain rfl : k = dl := by omega
      obtain ⟨⟨o0, o1, o2⟩, _⟩ := HO.out.cells
      have hpe := HP.out.1
      have hnm : anyMis ds es ps = false := anyMis_false (fun j hj => HGD.out j (by omega))
      have hls : ps.length ≤ ss.length := by rw [hpe, HS.out.1]; exact Nat.le_refl _
      have hfar : beyondB s (sprS es.length ss ps) = false := spr_far HW.out hls
      have hi1 : Ints wr (some ⟨g1, 0, none⟩) el es := ints_of_rowI HQ1.out HE.out.1 (by omega) HE.out.2.2.1
      have hi2 : Ints wr (some ⟨g2, 0, none⟩) el (sprS es.length ss ps) := by
        refine ints_of_rowI (World.rowIs.congr HQ2.out (fun j hj => ?_)) (by rw [sprS_length, HE.out.1]) (by omega) (sprS_bd HSM.out hls)
        rw [sprS_getD es.length ss ps j (by rw [HE.out.1]; exact hj), hpe]
      have HNM := hide hnm
      have HF := hide hfar
      have HI1 := hide hi1
      have HI2 := hide hi2
      clear hnm hls hfar hi1 hi2 hpe
      go_wp2_with fail
      refine (reached_any _ _ _ _ _ _ _ (sprS es.length ss ps) _ HI2.out).mono ?_
      rintro e w4 ⟨rfl, hb⟩
      rw [if_neg (by rw [HF.out]; simp)]
      have HBd := hide (Below.on HBw.out hb)
      have HRR4 := hide (HRR.out.below hb)
      have HI1' := hide (HI1.out.below hb)
      have HI2' := hide (HI2.out.below hb)
      obtain ⟨⟨r0, r1, r2⟩, rf0, rf1, rf2⟩ := HRR4.out.cells
      clear hb o0 o1 o2
      go_wp2
      refine bodyPost_ret (v := .tuple #[.agg #[.int .i64 s, .slice (some ⟨g1, 0, none⟩) el el, .slice (some ⟨g2, 0, none⟩) el el], .int .i64 0]) (by simp [results, Try.results23, go_sem, r0, r1, r2]) rfl ⟨?_, below_put HBd.out (by omega)⟩
      rw [SprPost, if_neg (by rw [HNM.out]; simp)]
      exact ⟨_, _, _, _, _, _, rfl, ints_set3 (B := w.heap.size + 1) HI1'.out (by omega), ints_set3 (B := w.heap.size + 1) HI2'.out (by omega), ⟨Nat.le_refl _, Nat.le_refl _⟩, .inr (far_some (by omega)), far_some (by omega)⟩
end Go.Proofs.Ytfamaaahofjglaa.V
