/-
  The walk of ViewCuts.
-/
import Derived.Test.YtfamaaahofjglaaRCutAny
import Derived.Test.YtfamaaahofjglaaRSpreadAny
namespace Go.Proofs.Ytfamaaahofjglaa.V
open Go.RowKit

set_option maxRecDepth 100000 in
set_option maxHeartbeats 4000000 in
theorem viewCuts_walk (s : Int) (da : Option Addr) (dl dc : Nat) (ds : List Int) (sa : Option Addr) (sl sc : Nat) (ss : List Int) (la : Option Addr) (ll lc : Nat) (lo : List Int) (ha : Option Addr) (hl hc : Nat) (hi : List Int) (ta : Option Addr) (tl tc : Nat) (st : List Int) (ea : Option Addr) (el ec : Nat) (es : List Int) (pa : Option Addr) (pl pc : Nat) (ps : List Int) (w : World)
    (hd : Ints w da dl ds) (hs : Ints w sa sl ss) (hlo : Ints w la ll lo) (hhi : Ints w ha hl hi) (hst : Ints w ta tl st) (he : Ints w ea el es) (hec : el ≤ ec) (hp : Ints w pa pl ps) :
    Calls Try.prog 5 #[.agg #[.int .i64 s, .slice da dl dc, .slice sa sl sc], .slice la ll lc, .slice ha hl hc, .slice ta tl tc, .slice ea el ec, .slice pa pl pc] w fun e w' => e = .returned (.bool true) ∧ Below w.heap.size w w' := by
  have HD := hide hd
  have HS := hide hs
  have HLO := hide hlo
  have HHI := hide hhi
  have HST := hide hst
  have HE := hide he
  have HP := hide hp
  clear hd hs hlo hhi hst he hp
  have hb0 : Below w.heap.size w (w.alloc (.cells #[.int .i64 s, .slice da dl dc, .slice sa sl sc] 24)) := (Below.refl _ _).alloc (Nat.le_refl _) _
  have HB0 := hide hb0
  clear hb0
  go_enter Try.func5, Try.ntmps5
  go_wp2_with fail
  refine (cut_any _ _ _ _ ds _ _ _ ss _ _ _ lo _ _ _ hi _ _ _ st _ (HD.out.below HB0.out) (HS.out.below HB0.out) (HLO.out.below HB0.out) (HHI.out.below HB0.out) (HST.out.below HB0.out)).mono ?_
  rintro e w1 ⟨⟨da1, dl1, dc1, sa1, sl1, sc1, rfl, hi1, hj1, _, _, _⟩, hb⟩
  have HB1 := hide (Below.on HB0.out hb)
  have hV1 : ViewAt w1 w.heap.size (.int .i64 s) (.slice da dl dc) (.slice sa sl sc) := (ViewAt.new w _ _ _).below hb
  have HV1 := hide hV1
  have hlt1 := hV1.lt
  obtain ⟨⟨v0, v1, v2⟩, _⟩ := hV1.cells
  have HI1 := hide hi1
  have HJ1 := hide hj1
  clear hb hV1 hi1 hj1
  go_wp2_with fail
  have HBa := hide (HB1.out.alloc HB1.out.size (.cells #[.int .i64 (okS (cutE s ds ss lo hi st) (cutAcc s ss lo ds.length)), .slice da1 dl1 dc1, .slice sa1 sl1 sc1] 24))
  refine (rcut_any _ _ _ _ ds _ _ _ ss _ _ _ lo _ _ _ hi _ _ _ st _ (HD.out.below HBa.out) (HS.out.below HBa.out) (HLO.out.below HBa.out) (HHI.out.below HBa.out) (HST.out.below HBa.out)).mono ?_
  rintro e w2 ⟨⟨da2, dl2, dc2, sa2, sl2, sc2, rfl, hi2, hj2, _, _, _⟩, hb⟩
  have HB2 := hide (Below.on HBa.out hb)
  have HV2 := hide ((HV1.out.alloc _).below hb)
  have HC2 := hide ((ViewAt.new w1 _ _ _).below hb)
  have HI1' := hide ((HI1.out.below ((Below.refl _ _).alloc (Nat.le_refl _) _)).below hb)
  have HJ1' := hide ((HJ1.out.below ((Below.refl _ _).alloc (Nat.le_refl _) _)).below hb)
  have HI2 := hide hi2
  have HJ2 := hide hj2
  have hlt2 := HC2.out.lt
  obtain ⟨⟨u0, u1, u2⟩, _⟩ := HC2.out.cells
  clear hb hi2 hj2 v0 v1 v2 HI1 HJ1 HBa HB1 HV1
  go_wp2_with fail
  have hz : Below w2.heap.size w2 (w2.alloc (.cells #[.int .i64 (okS (cutE s ds ss lo hi st) (cutAcc s ss lo ds.length)), .slice da2 dl2 dc2, .slice sa2 sl2 sc2] 24)) := (Below.refl _ _).alloc (Nat.le_refl _) _
  refine (sameView_any _ _ _ _ _ _ _ _ _ _ _ _ _ _ _ _ _ _ _ (HI1'.out.below hz) (HJ1'.out.below hz) (HI2.out.below hz) (HJ2.out.below hz) rfl rfl rfl).mono ?_
  rintro e w3 ⟨rfl, hb⟩
  have HB3 := hide (Below.on (HB2.out.alloc HB2.out.size _) hb)
  have HV3 := hide ((HV2.out.alloc _).below hb)
  have HC3 := hide ((HC2.out.alloc _).below hb)
  have HE3 := hide ((ViewAt.new w2 _ _ _).below hb)
  have hlt3 := HE3.out.lt
  obtain ⟨⟨v0, v1, v2⟩, _⟩ := HV3.out.cells
  have q1 : (cutE s ds ss lo hi st != cutE s ds ss lo hi st) = false := by simp
  clear hb hz u0 u1 u2 HI1' HJ1' HI2 HJ2 HV2 HC2 HB2
  go_wp2_with fail
  refine (spread_any _ _ _ _ ds _ _ _ ss _ _ _ es _ _ _ ps _ (HD.out.below HB3.out) (HS.out.below HB3.out) (HE.out.below HB3.out) (HP.out.below HB3.out)).mono ?_
  rintro e w4 ⟨⟨da4, dl4, dc4, sa4, sl4, sc4, rfl, hi, hj, _, hF, hG⟩, hb⟩
  have HB4 := hide (Below.on HB3.out hb)
  have HV4 := hide (HV3.out.below hb)
  have HC4 := hide (HC3.out.below hb)
  have HE4 := hide (HE3.out.below hb)
  have HI4 := hide hi
  have HJ4 := hide hj
  have HF := hide hF
  have HG := hide hG
  have hlt4 := HE4.out.lt
  obtain ⟨⟨v0, v1, v2⟩, _⟩ := HV4.out.cells
  obtain ⟨⟨c0, c1, c2⟩, f0, f1, f2⟩ := HC4.out.cells
  clear hb hi hj hF hG q1 HB3 HV3 HC3 HE3
  go_wp2_with fail
  have HB5 := hide (below_put (C := w1.heap.size) (x := .int .i64 (okS (sprE s ds ss es ps) s)) (y := .slice da4 dl4 dc4) (z := .slice sa4 sl4 sc4) HB4.out (by omega))
  refine (rspread_any _ _ _ _ ds _ _ _ ss _ _ _ es _ _ _ ps _ (HD.out.below HB5.out) (HS.out.below HB5.out) (HE.out.below HB5.out) (HP.out.below HB5.out) hec).mono ?_
  rintro e w6 ⟨⟨da6, dl6, dc6, sa6, sl6, sc6, rfl, hi, hj, _, hF, hG⟩, hb⟩
  have HB6 := hide (Below.on HB5.out hb)
  have HC6 := hide ((view_put' HC4.out).below hb)
  have HE6 := hide ((view_put HE4.out (by omega)).below hb)
  have HI4' := hide ((ints_put HI4.out HF.out HE.out (okL_or _ _) HB5.out (by omega)).below hb)
  have HJ4' := hide ((ints_putF HJ4.out HG.out (by omega)).below hb)
  simp only [World.size_setCell] at hF hG
  have HI6 := hide hi
  have HJ6 := hide hj
  have HF6 := hide hF
  have HG6 := hide hG
  have hlt6 := HE6.out.lt
  obtain ⟨⟨u0, u1, u2⟩, _⟩ := HC6.out.cells
  obtain ⟨⟨c0, c1, c2⟩, f0, f1, f2⟩ := HE6.out.cells
  clear hb hi hj hF hG HB4 HV4 HC4 HE4 HI4 HJ4 HB5 v0 v1 v2
  go_wp2_with fail
  have HB7 := hide (below_put (C := w2.heap.size) (x := .int .i64 (okS (sprE s ds ss es ps) s)) (y := .slice da6 dl6 dc6) (z := .slice sa6 sl6 sc6) HB6.out (by omega))
  refine (sameView_any _ _ _ _ _ _ _ _ _ _ _ _ _ _ _ _ _ _ _ (ints_put HI4'.out HF.out HE.out (okL_or _ _) HB7.out (by omega)) (ints_putF HJ4'.out HG.out (by omega)) (ints_put HI6.out HF6.out HE.out (okL_or _ _) HB7.out (by omega)) (ints_putF HJ6.out HG6.out (by omega)) rfl rfl rfl).mono ?_
  rintro e w8 ⟨rfl, hb⟩
  have HB8 := hide (Below.on HB7.out hb)
  have q1 : (sprE s ds ss es ps == sprE s ds ss es ps) = true := by simp
  clear hb
  go_wp2
  go_ret
  exact ⟨rfl, HB8.out⟩
end Go.Proofs.Ytfamaaahofjglaa.V
