/-
  PointsCounts: the walk.
-/
import Derived.Test.YtmefgejggpimeaaPtEnds2
import Derived.Deep.RegionWith
namespace Go.Proofs.Ytmefgejggpimeaa.V
open Go.RowKit
set_option linter.unusedVariables false

theorem count_calls (ba : Option Addr) (bl bc : Nat) (box : List Int) (ra : Option Addr) (rl rc : Nat) (rs : List (List Int × Int)) (w : World) (h : Ints w ba bl box) (hr : Rws w ra rl rs) :
    Calls Try.prog 8 #[.agg #[.slice ba bl bc, .slice ra rl rc]] w fun e w' => e = .returned (.tuple #[.int .i64 (if ptE box rs = 0 then (pts box rs).length else 0 : Nat), .int .i64 (ptE box rs)]) ∧ Below w.heap.size w w' := by
  by_cases hE : ptE box rs = 0
  · rw [if_pos hE, hE]
    exact callsIn_wide.1 (ptCount_ok ba bl bc box ra rl rc rs w h hr hE)
  · rw [if_neg hE]
    exact ptCount_bad ba bl bc box ra rl rc rs w h hr hE
/-- What Ends answers: two lists and an error. -/
def EndsIs (L1 L2 : List Int) (E : Int) (e : Ending) (w' : World) : Prop := ∃ a l c a' l' c', e = .returned (.tuple #[.slice a l c, .slice a' l' c', .int .i64 E]) ∧ Ints w' a l L1 ∧ Ints w' a' l' L2
theorem ends_is {box : List Int} {rs : List (List Int × Int)} {e : Ending} {w' : World} (h : if ptE box rs = 0 then EndsTold (pts box rs) e w' else e = .returned (.tuple #[.slice none 0 0, .slice none 0 0, .int .i64 (ptE box rs)])) :
    EndsIs (if ptE box rs = 0 then lowL (pts box rs) else []) (if ptE box rs = 0 then highL (pts box rs) else []) (if ptE box rs = 0 then (if pts box rs = [] then 9 else 0) else ptE box rs) e w' := by
  by_cases hE : ptE box rs = 0
  · simp only [if_pos hE] at h ⊢
    exact h
  · simp only [if_neg hE] at h ⊢
    subst h
    exact ⟨none, 0, 0, none, 0, 0, rfl, ints_nil _, ints_nil _⟩

set_option maxHeartbeats 4000000 in
theorem pointsCounts_walk (ba : Option Addr) (bl bc : Nat) (box : List Int) (ra : Option Addr) (rl rc : Nat) (rs : List (List Int × Int)) (w : World) (h : Lst w ba bl bc box) (hr : Rws w ra rl rs) :
    Calls Try.prog 3 #[.agg #[.slice ba bl bc, .slice ra rl rc]] w fun e w' => e = .returned (.bool true) ∧ Below w.heap.size w w' := by
  have B1 : Below w.heap.size w (w.alloc (.cells #[.slice ba bl bc, .slice ra rl rc] 25)) := bl_new _
  have HB := hide B1
  have HP := hide (PtAt.new w ba bl bc ra rl rc)
  have H := hide h
  have HR := hide hr
  clear h hr B1
  have C1 := hide (fun W (hb : Below w.heap.size w W) => count_calls ba bl bc box ra rl rc rs W (H.out.1.below hb) (HR.out.below hb))
  have C2 := hide (fun W (hb : Below w.heap.size w W) => rCount_any ba bl bc box ra rl rc rs W (H.out.below hb) (HR.out.below hb))
  have C3 := hide (fun W (hb : Below w.heap.size w W) => ptWrong_any ba bl bc box ra rl rc rs W (H.out.1.below hb) (HR.out.below hb))
  have C4 := hide (fun W (hb : Below w.heap.size w W) => rptWrong_any ba bl bc box ra rl rc rs W (H.out.1.below hb) (HR.out.below hb))
  have C5 : Hid (∀ W, Below w.heap.size w W → Calls Try.prog 12 #[.agg #[.slice ba bl bc, .slice ra rl rc]] W fun e w' => EndsIs (if ptE box rs = 0 then lowL (pts box rs) else []) (if ptE box rs = 0 then highL (pts box rs) else []) (if ptE box rs = 0 then (if pts box rs = [] then 9 else 0) else ptE box rs) e w' ∧ Below W.heap.size W w') := fun W hb => (ends_all ba bl bc box ra rl rc rs W (H.out.1.below hb) (HR.out.below hb)).mono fun e w' hh => ⟨ends_is hh.1, hh.2⟩
  have C6 : Hid (∀ W, Below w.heap.size w W → Calls Try.prog 13 #[.agg #[.slice ba bl bc, .slice ra rl rc]] W fun e w' => EndsIs (if ptE box rs = 0 then lowL (pts box rs) else []) (if ptE box rs = 0 then highL (pts box rs) else []) (if ptE box rs = 0 then (if pts box rs = [] then 9 else 0) else ptE box rs) e w' ∧ Below W.heap.size W w') := fun W hb => (rEnds_any ba bl bc box ra rl rc rs W (H.out.below hb) (HR.out.below hb)).mono fun e w' hh => ⟨ends_is hh.1, hh.2⟩
  obtain ⟨M, hM⟩ : ∃ M : Nat, M = (if ptE box rs = 0 then (pts box rs).length else 0 : Nat) := ⟨_, rfl⟩
  obtain ⟨E, hE⟩ : ∃ E : Int, E = ptE box rs := ⟨_, rfl⟩
  obtain ⟨L1, hL1⟩ : ∃ L, L = (if ptE box rs = 0 then lowL (pts box rs) else []) := ⟨_, rfl⟩
  obtain ⟨L2, hL2⟩ : ∃ L, L = (if ptE box rs = 0 then highL (pts box rs) else []) := ⟨_, rfl⟩
  obtain ⟨E2, hE2⟩ : ∃ E : Int, E = (if ptE box rs = 0 then (if pts box rs = [] then 9 else 0) else ptE box rs) := ⟨_, rfl⟩
  simp only [← hM] at C1 C2
  simp only [← hL1, ← hL2, ← hE2] at C5 C6
  simp only [← hE] at C1 C2 C3 C4
  clear hM hE hL1 hL2 hE2
  have q0 : ((M : Int) != (M : Int)) = false := by simp
  have q1 : (E != E) = false := by simp
  go_enter Try.func3, Try.ntmps3
  go_wp2_with fail
  refine (C1.out _ HB.out).mono ?_
  rintro e w1 ⟨rfl, hb⟩
  have HB1 := hide (bl_on HB.out hb)
  have P1 := HP.out.below hb
  have HP1 := hide P1
  obtain ⟨p0, p1⟩ := P1.cells
  have zP := P1.lt
  clear hb P1
  go_wp2_with fail
  refine (C2.out _ HB1.out).mono ?_
  rintro e w2 ⟨rfl, hb⟩
  have HB2 := hide (bl_on HB1.out hb)
  have P2 := HP1.out.below hb
  have HP2 := hide P2
  obtain ⟨p2, p3⟩ := P2.cells
  have zP2 := P2.lt
  clear hb P2 p0 p1 zP
  go_wp2_with fail
  have HBd := hide (HB2.out.drew)
  have HPd : Hid (PtAt w2.drew w.heap.size ba bl bc ra rl rc) := HP2.out
  go_region_with (first
    | (go_at_call 10; refine (C3.out _ HBd.out).mono ?_; rintro e w3 ⟨rfl, hb⟩; have HB3 := hide (bl_on HBd.out hb); have P3 := HPd.out.below hb; have HP3 := hide P3; obtain ⟨p4, p5⟩ := P3.cells; have zP3 := P3.lt; clear hb P3)
    | (go_at_call 11; refine (C4.out _ HB3.out).mono ?_; rintro e w4 ⟨rfl, hb⟩; have HB4 := hide (bl_on HB3.out hb); have P4 := HP3.out.below hb; have HP4 := hide P4; obtain ⟨p6, p7⟩ := P4.cells; have zP4 := P4.lt; clear hb P4))
  all_goals
    clear p2 p3 zP2 p4 p5 zP3
    go_wp2_with fail
    refine (C5.out _ HB4.out).mono ?_
    rintro e w5 ⟨⟨a1, l1, c1, a1', l1', c1', rfl, i1, i2⟩, hb⟩
    have HB5 := hide (bl_on HB4.out hb)
    have P5 := HP4.out.below hb
    have HP5 := hide P5
    obtain ⟨p8, p9⟩ := P5.cells
    have zP5 := P5.lt
    have I1 := hide i1
    have I2 := hide i2
    clear hb P5 p6 p7 zP4 i1 i2
    go_wp2_with fail
    refine (C6.out _ HB5.out).mono ?_
    rintro e w6 ⟨⟨a2, l2, c2, a2', l2', c2', rfl, i1, i2⟩, hb⟩
    have HB6 := hide (bl_on HB5.out hb)
    have J1 := hide i1
    have J2 := hide i2
    have K1 := hide (I1.out.below hb)
    have K2 := hide (I2.out.below hb)
    clear hb i1 i2 I1 I2 p8 p9 zP5
    go_wp2_with fail
    refine (sameList_any a1 l1 c1 L1 a2 l2 c2 L1 w6 K1.out J1.out).mono ?_
    rintro e w7 ⟨rfl, nn, rfl⟩
    simp only [decide_true]
    go_wp2_with fail
    refine (sameList_any a1' l1' c1' L2 a2' l2' c2' L2 (w6.drewN nn) (K2.out.below (below_drewN _ _)) (J2.out.below (below_drewN _ _))).mono ?_
    rintro e w8 ⟨rfl, nn2, rfl⟩
    simp only [decide_true]
    go_wp2_with fail
    go_ret
    exact ⟨by simp, (HB6.out.trans (below_drewN _ _))⟩
end Go.Proofs.Ytmefgejggpimeaa.V
