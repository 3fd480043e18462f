/-
  The walk of ViewReforms.
-/
import Derived.Test.YtfamaaahofjglaaRReformAny
namespace Go.Proofs.Ytfamaaahofjglaa.V
open Go.RowKit

set_option maxRecDepth 100000 in
set_option maxHeartbeats 4000000 in
theorem viewReforms_walk (s : Int) (da : Option Addr) (dl dc : Nat) (ds : List Int) (sa : Option Addr) (sl sc : Nat) (ss : List Int) (ea : Option Addr) (el ec : Nat) (es : List Int) (w : World) (hd : Ints w da dl ds) (hs : Ints w sa sl ss) (he : Ints w ea el es) (hec : el ≤ ec) :
    Calls Try.prog 6 #[.agg #[.int .i64 s, .slice da dl dc, .slice sa sl sc], .slice ea el ec] w fun e w' => e = .returned (.bool true) ∧ Below w.heap.size w w' := by
  have HD := hide hd
  have HS := hide hs
  have HE := hide he
  clear hd hs he
  have hb0 : Below w.heap.size w (w.alloc (.cells #[.int .i64 s, .slice da dl dc, .slice sa sl sc] 24)) := (Below.refl _ _).alloc (Nat.le_refl _) _
  have HB0 := hide hb0
  clear hb0
  obtain ⟨E, hEE⟩ : ∃ E, reformE s ds ss es = E := ⟨_, rfl⟩
  have HEE := hide hEE
  clear hEE
  go_enter Try.func6, Try.ntmps6
  go_wp2_with fail
  refine (reform_any _ _ _ _ ds _ _ _ ss _ _ _ es _ (HD.out.below HB0.out) (HS.out.below HB0.out) (HE.out.below HB0.out) none).mono ?_
  rintro e w1 ⟨hgv, hb⟩
  rw [HEE.out] at hgv
  obtain ⟨da1, dl1, dc1, sa1, sl1, sc1, rfl, hi1, hj1, _, _⟩ := hgv.gives
  have HB1 := hide (Below.on HB0.out hb)
  have hV1 : ViewAt w1 w.heap.size (.int .i64 s) (.slice da dl dc) (.slice sa sl sc) := (ViewAt.new w _ _ _).below hb
  have HV1 := hide hV1
  have hlt1 := hV1.lt
  obtain ⟨⟨v0, v1, v2⟩, _⟩ := hV1.cells
  have HI1 := hide hi1
  have HJ1 := hide hj1
  clear hb hV1 hi1 hj1 hgv
  go_wp2_with fail
  have HBa := hide (HB1.out.alloc HB1.out.size (.cells #[.int .i64 (okS E s), .slice da1 dl1 dc1, .slice sa1 sl1 sc1] 24))
  refine (rreform_any _ _ _ _ ds _ _ _ ss _ _ _ es _ (HD.out.below HBa.out) (HS.out.below HBa.out) (HE.out.below HBa.out) hec).mono ?_
  rintro e w2 ⟨hgv, hb⟩
  rw [HEE.out] at hgv
  obtain ⟨da2, dl2, dc2, sa2, sl2, sc2, rfl, hi2, hj2, _, _⟩ := hgv.gives
  have HB2 := hide (Below.on HBa.out hb)
  have HC2 := hide ((ViewAt.new w1 _ _ _).below hb)
  have HI1' := hide ((HI1.out.below ((Below.refl _ _).alloc (Nat.le_refl _) _)).below hb)
  have HJ1' := hide ((HJ1.out.below ((Below.refl _ _).alloc (Nat.le_refl _) _)).below hb)
  have HI2 := hide hi2
  have HJ2 := hide hj2
  have hlt2 := HC2.out.lt
  obtain ⟨⟨u0, u1, u2⟩, _⟩ := HC2.out.cells
  clear hb hi2 hj2 v0 v1 v2 HI1 HJ1 HBa HB1 HV1 hgv
  go_wp2_with fail
  have hz : Below w2.heap.size w2 (w2.alloc (.cells #[.int .i64 (okS E s), .slice da2 dl2 dc2, .slice sa2 sl2 sc2] 24)) := (Below.refl _ _).alloc (Nat.le_refl _) _
  refine (sameView_any _ _ _ _ _ _ _ _ _ _ _ _ _ _ _ _ _ _ _ (HI1'.out.below hz) (HJ1'.out.below hz) (HI2.out.below hz) (HJ2.out.below hz) rfl rfl rfl).mono ?_
  rintro e w3 ⟨rfl, hb⟩
  have HB3 := hide (Below.on (HB2.out.alloc HB2.out.size _) hb)
  have q1 : (E == E) = true := by simp
  clear hb hz
  go_wp2
  go_ret
  exact ⟨rfl, HB3.out⟩
end Go.Proofs.Ytfamaaahofjglaa.V
