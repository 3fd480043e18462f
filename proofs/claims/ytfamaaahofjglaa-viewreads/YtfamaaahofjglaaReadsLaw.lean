/-
  The walk of ViewReads.
-/
import Derived.Test.YtfamaaahofjglaaReadsAny
namespace Go.Proofs.Ytfamaaahofjglaa.V
open Go.RowKit

set_option maxRecDepth 100000 in
set_option maxHeartbeats 4000000 in
theorem viewReads_walk (s : Int) (da : Option Addr) (dl dc : Nat) (ds : List Int) (sa : Option Addr) (sl sc : Nat) (ss : List Int) (w : World) (hd : Ints w da dl ds) (hdc : dl ≤ dc) (hs : Ints w sa sl ss) :
    Calls Try.prog 3 #[.agg #[.int .i64 s, .slice da dl dc, .slice sa sl sc]] w fun e w' => e = .returned (.bool true) ∧ Below w.heap.size w w' := by
  have HD := hide hd
  have HS := hide hs
  clear hd hs
  have hb0 : Below w.heap.size w (w.alloc (.cells #[.int .i64 s, .slice da dl dc, .slice sa sl sc] 24)) := (Below.refl _ _).alloc (Nat.le_refl _) _
  have HB0 := hide hb0
  clear hb0
  go_enter Try.func3, Try.ntmps3
  go_wp2_with fail
  refine (whole_any _ _ _ ds _ (HD.out.below HB0.out) none).mono ?_
  rintro e w1 ⟨hgv, hb⟩
  obtain ⟨da1, dl1, dc1, sa1, sl1, sc1, rfl, hi1, hj1, _, _⟩ := hgv.gives
  have HB1 := hide (Below.on HB0.out hb)
  have hV1 : ViewAt w1 w.heap.size (.int .i64 s) (.slice da dl dc) (.slice sa sl sc) := (ViewAt.new w _ _ _).below hb
  have HV1 := hide hV1
  have hlt1 := hV1.lt
  obtain ⟨⟨v0, v1, v2⟩, _⟩ := hV1.cells
  have HI1 := hide hi1
  have HJ1 := hide hj1
  clear hb hV1 hi1 hj1 hgv
  go_wp2_with fail
  have HBa := hide (HB1.out.alloc HB1.out.size (.cells #[.int .i64 0, .slice da1 dl1 dc1, .slice sa1 sl1 sc1] 24))
  refine (rwhole_any _ _ _ ds _ (HD.out.below HBa.out) hdc).mono ?_
  rintro e w2 ⟨hgv, hb⟩
  obtain ⟨da2, dl2, dc2, sa2, sl2, sc2, rfl, hi2, hj2, _, _⟩ := hgv.gives
  have HB2 := hide (Below.on HBa.out hb)
  have HV2 := hide ((HV1.out.alloc _).below hb)
  have HC2 := hide ((ViewAt.new w1 _ _ _).below hb)
  have HI1' := hide ((HI1.out.below ((Below.refl _ _).alloc (Nat.le_refl _) _)).below hb)
  have HJ1' := hide ((HJ1.out.below ((Below.refl _ _).alloc (Nat.le_refl _) _)).below hb)
  have HI2 := hide hi2
  have HJ2 := hide hj2
  have hlt2 := HC2.out.lt
  clear hb hi2 hj2 v0 v1 v2 HI1 HJ1 HBa HB1 HV1 hgv
  go_wp2_with fail
  have hz : Below w2.heap.size w2 (w2.alloc (.cells #[.int .i64 0, .slice da2 dl2 dc2, .slice sa2 sl2 sc2] 24)).drew := ((Below.refl _ _).alloc (Nat.le_refl _) _).drew
  have HZ := hide hz
  have HB2' := hide (Below.on HB2.out hz)
  have HVz := hide (HV2.out.below hz)
  have HCz := hide (HC2.out.below hz)
  have HEz := hide (vw_drew (ViewAt.new w2 (.int .i64 0) (.slice da2 dl2 dc2) (.slice sa2 sl2 sc2)))
  obtain ⟨⟨c0, c1, c2⟩, _⟩ := HCz.out.cells
  obtain ⟨⟨e0, e1, e2⟩, _⟩ := HEz.out.cells
  obtain ⟨⟨v0, v1, v2⟩, _⟩ := HVz.out.cells
  have q1 : (sizeE ds != sizeE ds) = false := by simp
  have q2 : (wrongE s ds ss != wrongE s ds ss) = false := by simp
  clear hz
  go_region_with (first
    | (go_at_call 11; refine (sameView_any _ _ _ _ _ _ _ _ _ _ _ _ _ _ _ _ _ _ _ (HI1'.out.below HZ.out) (HJ1'.out.below HZ.out) (HI2.out.below HZ.out) (HJ2.out.below HZ.out) rfl rfl rfl).mono ?_; rintro e w3 ⟨rfl, hb⟩; have HB3 := hide (Below.on HB2'.out hb); have HV3 := hide (HVz.out.below hb); obtain ⟨⟨x0, x1, x2⟩, _⟩ := HV3.out.cells; clear hb)
    | (go_at_call 12; refine (wrong_any _ _ _ _ ds _ _ _ ss _ (HD.out.below HB3.out) (HS.out.below HB3.out)).mono ?_; rintro e w4 ⟨rfl, hb⟩; have HB4 := hide (Below.on HB3.out hb); have HV4 := hide (HV3.out.below hb); obtain ⟨⟨y0, y1, y2⟩, _⟩ := HV4.out.cells; clear hb)
    | (go_at_call 13; refine (rwrong_any _ _ _ _ ds _ _ _ ss _ (HD.out.below HB4.out) (HS.out.below HB4.out)).mono ?_; rintro e w5 ⟨rfl, hb⟩; have HB5 := hide (Below.on HB4.out hb); have HV5 := hide (HV4.out.below hb); obtain ⟨⟨z0, z1, z2⟩, _⟩ := HV5.out.cells; clear hb))
  all_goals
    clear c0 c1 c2 e0 e1 e2 v0 v1 v2 x0 x1 x2 y0 y1 y2
    go_wp2_with fail
    refine (reads_any _ _ _ _ ds _ _ _ ss _ (HD.out.below HB5.out) (HS.out.below HB5.out)).mono ?_
    rintro e w6 ⟨⟨A6, n6, c6, rfl, hi6, _⟩, hb⟩
    have HB6 := hide (Below.on HB5.out hb)
    have HV6 := hide (HV5.out.below hb)
    obtain ⟨⟨y0, y1, y2⟩, _⟩ := HV6.out.cells
    have HI6 := hide hi6
    clear hb hi6 z0 z1 z2
    go_wp2_with fail
    refine (rreads_any _ _ _ _ ds _ _ _ ss _ (HD.out.below HB6.out) (HS.out.below HB6.out)).mono ?_
    rintro e w7 ⟨⟨A7, n7, c7, rfl, hi7, _⟩, hb⟩
    have HB7 := hide (Below.on HB6.out hb)
    have HI6' := hide (HI6.out.below hb)
    have HI7 := hide hi7
    clear hb hi7 y0 y1 y2
    have q3 : (wrongE s ds ss == wrongE s ds ss) = true := by simp
    go_wp2_with (go_at_call 16; refine (same_any _ _ _ _ _ _ _ _ _ HI6'.out HI7.out).mono ?_; rintro e w8 h8)
    go_ret
    obtain ⟨_, n, rfl⟩ := h8
    exact ⟨rfl, Below.on HB7.out (below_drewN _ _)⟩
end Go.Proofs.Ytfamaaahofjglaa.V
