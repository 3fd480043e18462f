/-
  The law RoomLays.
-/
import Derived.Test.YtcnnghhaohehoaaRmRef3
import Derived.Test.YtcnnghhaohehoaaRmLoadP
import Derived.Test.YtcnnghhaohehoaaSameLists
namespace Go.Proofs.Ytcnnghhaohehoaa.V
open Go Go.Shelf Go.RowKit Go.Lib Go.Sort Go.Proofs
set_option linter.unusedVariables false

set_option maxHeartbeats 4000000 in
set_option maxRecDepth 100000 in
theorem roomLays_walk (a : Option Addr) (len cap : Nat) (ls : List Lf) (w : World) (h : Lives w a len ls) :
    Calls Try.prog 3 #[.slice a len cap] w fun e w' => e = .returned (.bool true) ∧ Below w.heap.size w w' := by
  have H := hide h
  have H1 := hide (load_any a len cap ls w h)
  clear h
  obtain ⟨N, hN⟩ : ∃ N, N = (if livesE ls = 0 then loadV ls else 0) := ⟨_, rfl⟩
  have HN := hide hN
  rw [← hN] at H1
  obtain ⟨E, hE⟩ : ∃ E, E = livesE ls := ⟨_, rfl⟩
  have HE := hide hE
  rw [← hE] at H1
  clear hN hE
  go_enter Try.func3, Try.ntmps3
  go_wp2_with (first
    | (go_at_call 8; refine H1.out.mono ?_; rintro e w1 ⟨rfl, hb⟩; have HB1 := hide hb; clear hb)
    | (go_at_call 9; refine (rLoad_any a len cap ls w1 (H.out.below HB1.out)).mono ?_; rintro e w2 ⟨rfl, hb⟩; rw [← HN.out, ← HE.out]; have HB2 := hide (bl_on HB1.out hb); clear hb)
    | (go_at_call 10; refine (rmWrong_any a len cap ls w2 (H.out.below HB2.out)).mono ?_; rintro e w3 ⟨rfl, hb⟩; rw [← HE.out]; have HB3 := hide (bl_on HB2.out hb); clear hb)
    | (go_at_call 11; refine (rRmWrong_any a len cap ls w3 (H.out.below HB3.out)).mono ?_; rintro e w4 ⟨rfl, hb⟩; rw [← HE.out]; have HB4 := hide (bl_on HB3.out hb); clear hb)
    | fail)
  refine (lay_any a len cap ls w4 (H.out.below HB4.out)).mono ?_
  rintro e w5 ⟨⟨os, a5, l5, c5, hord, rfl, hin5⟩, hb5⟩
  have HB5 := hide (bl_on HB4.out hb5)
  have HI5 := hide hin5
  have HORD := hide hord
  clear hord hin5 hb5
  have H6 := hide (rLay_any a len cap ls os w5 (H.out.below HB5.out) HORD.out)
  obtain ⟨N2, hN2⟩ : ∃ N2, N2 = layN ls os := ⟨_, rfl⟩
  obtain ⟨E2, hE2⟩ : ∃ E2, E2 = layE ls os := ⟨_, rfl⟩
  rw [← hN2, ← hE2] at H6 ⊢
  clear hN2 hE2
  go_wp2_with fail
  refine H6.out.mono ?_
  rintro e w6 ⟨⟨a6, l6, c6, rfl, hin6⟩, hb6⟩
  have HB6 := hide (bl_on HB5.out hb6)
  have HS := sameList_any a5 l5 c5 (layL ls os) a6 l6 c6 (layL ls os) w6 (HI5.out.below hb6) hin6
  rw [decide_eq_true rfl] at HS
  have HSH := hide HS
  clear HS hin6 hb6
  go_wp2_with (go_at_call 14; refine HSH.out.mono ?_; rintro e w7 ⟨rfl, n7, rfl⟩)
  go_ret
  exact ⟨by simp, bl_on HB6.out (below_drewN2 _ _)⟩
end Go.Proofs.Ytcnnghhaohehoaa.V
