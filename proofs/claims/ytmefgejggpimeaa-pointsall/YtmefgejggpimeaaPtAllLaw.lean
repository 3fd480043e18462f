/-
  PointsAll: the walk.
-/
import Derived.Test.YtmefgejggpimeaaPtPlain
import Derived.Test.YtmefgejggpimeaaPtAll
import Derived.Deep.RegionWith
import Derived.Deep.QuietTactic
namespace Go.Proofs.Ytmefgejggpimeaa.V
open Go.RowKit
set_option linter.unusedVariables false

set_option maxHeartbeats 4000000 in
theorem lists_same (A A' : Option Addr) (n c c' : Nat) (L : List (List Int)) (w : World) (h : LL w A n L) (h' : LL w A' n L) (hn : n ≤ 4096) :
    Calls Try.prog 20 #[.slice A n c, .slice A' n c'] w fun e w' => e = .returned (.bool true) ∧ ∃ nn, w' = w.drewN nn := by
  have H := hide h
  have H' := hide h'
  clear h h'
  go_enter Try.func20, Try.ntmps20
  go_wp2_with fail
  go_loopw [13] (fun i wr => ∃ k : Nat, k ≤ n ∧ i = .int .i64 k ∧ ∃ nn, wr = w.drewN nn) (fun i _ => n - (intOf i).toNat)
  case atStart => exact ⟨0, Nat.zero_le _, rfl, 0, rfl⟩
  case round =>
    obtain ⟨k, hk, rfl, nn, rfl⟩ := hrel
    by_cases hlt : k < n
    · obtain ⟨b, off, rfl, hat⟩ := H.out.at (by omega)
      obtain ⟨b', off', rfl, hat'⟩ := H'.out.at (by omega)
      obtain ⟨a1, l1, c1, x1, x2, _⟩ := hat k hlt
      obtain ⟨a2, l2, c2, y1, y2, _⟩ := hat' k hlt
      obtain ⟨wq, hwq⟩ : ∃ wq, wq = w.drewN nn := ⟨_, rfl⟩
      have HEQ : Hid (∀ m, Calls Try.prog 14 #[.slice a1 l1 c1, .slice a2 l2 c2] (wq.drewN m) fun e w' => e = .returned (.bool true) ∧ ∃ k, w' = (wq.drewN m).drewN k) := fun m => by
        have := sameList_any a1 l1 c1 (L[k]?.getD []) a2 l2 c2 (L[k]?.getD []) (wq.drewN m) (by rw [hwq]; exact (x2.1.below (below_drewN _ _)).below (below_drewN _ _)) (by rw [hwq]; exact (y2.1.below (below_drewN _ _)).below (below_drewN _ _))
        simpa using this
      have x1' : wq.cell? ⟨b, off + k, none⟩ = some (.slice a1 l1 c1) := by rw [hwq]; exact x1
      have y1' : wq.cell? ⟨b', off' + k, none⟩ = some (.slice a2 l2 c2) := by rw [hwq]; exact y1
      have HWQ := hide hwq
      have zq : wq.heap.size = w.heap.size := by rw [hwq]; rfl
      rw [← hwq]
      clear hwq
      have z1 := lt_of_cell x1
      have z2 := lt_of_cell y1
      simp only at z1 z2
      clear hat hat' x2 y2
      go_wp2_with fail
      go_quiet ((go_at_call 14; exact Calls.quiet_of (HEQ.out _)))
      go_wp2_with fail
      go_roundw
      case rel => exact ⟨k + 1, by omega, by go_num, _, by rw [HWQ.out]; exact World.drewN_drewN _ _ _⟩
      case measure => simp [intOf]; omega
    · go_wp2_with fail
      go_ret
      exact ⟨rfl, _, rfl⟩

set_option maxHeartbeats 4000000 in
theorem pointsAll_walk (ba : Option Addr) (bl bc : Nat) (box : List Int) (ra : Option Addr) (rl rc : Nat) (rs : List (List Int × Int)) (w : World) (h : Lst w ba bl bc box) (hr : Rws w ra rl rs) :
    Calls Try.prog 5 #[.agg #[.slice ba bl bc, .slice ra rl rc]] w fun e w' => e = .returned (.bool true) ∧ Below w.heap.size w w' := by
  have B1 : Below w.heap.size w (w.alloc (.cells #[.slice ba bl bc, .slice ra rl rc] 25)) := bl_new _
  have HB := hide B1
  have HP := hide (PtAt.new w ba bl bc ra rl rc)
  have H := hide h
  have HR := hide hr
  have C4 := hide (fun W (hb : Below w.heap.size w W) => rptWrong_any ba bl bc box ra rl rc rs W (H.out.1.below hb) (HR.out.below hb))
  by_cases hE : ptE box rs = 0
  · have HE := hide hE
    have HO := hide (ptE_ok hE)
    have C1 := hide (callsIn_wide.1 (plainPts_ok ba bl bc box ra rl rc rs _ (h.1.below B1) (hr.below B1) hE))
    have C2 := hide (fun W (hb : Below w.heap.size w W) => rAll_ok ba bl bc box ra rl rc rs W (H.out.below hb) (HR.out.below hb) HO.out)
    obtain ⟨N, hN⟩ : ∃ N, N = (pts box rs).length := ⟨_, rfl⟩
    have hN4 : N ≤ 4096 := by rw [hN]; exact pts_len HO.out
    rw [← hN] at C1 C2
    clear h hr B1 hE hN
    go_enter Try.func5, Try.ntmps5
    go_wp2_with fail
    refine C1.out.mono ?_
    rintro e w1 ⟨⟨A, c, rfl, hl⟩, hb⟩
    have HL := hide hl
    have HB1 := hide (bl_on HB.out hb)
    have P1 := HP.out.below hb
    have HP1 := hide P1
    obtain ⟨p0, p1⟩ := P1.cells
    have zP := P1.lt
    clear hb P1 hl
    go_wp2_with fail
    refine (C4.out w1 HB1.out).mono ?_
    rintro e w2 ⟨rfl, hb⟩
    rw [HE.out]
    have HL2 := hide (HL.out.below hb)
    have HB2 := hide (bl_on HB1.out hb)
    have P2 := HP1.out.below hb
    obtain ⟨p2, p3⟩ := P2.cells
    have zP2 := P2.lt
    clear hb P2 p0 p1 zP
    go_wp2_with fail
    refine (C2.out w2 HB2.out).mono ?_
    rintro e w3 ⟨⟨A', c', rfl, hl'⟩, hb⟩
    have HL3 := hide (HL2.out.below hb)
    have HL3' := hide hl'
    have HB3 := hide (bl_on HB2.out hb)
    clear hb hl' p2 p3 zP2
    go_wp2_with fail
    refine (lists_same A A' N c c' (pts box rs) w3 HL3.out HL3'.out hN4).mono ?_
    rintro e w4 ⟨rfl, nn, rfl⟩
    go_wp2_with fail
    go_ret
    exact ⟨rfl, HB3.out.trans (below_drewN _ _)⟩
  · have c2 : (ptE box rs != 0) = true := by simpa using hE
    have C1 := hide (callsIn_wide.1 (plainPts_bad ba bl bc box ra rl rc rs _ (h.1.below B1) (hr.below B1) hE))
    clear h hr B1 hE
    go_enter Try.func5, Try.ntmps5
    go_wp2_with fail
    refine C1.out.mono ?_
    rintro e w1 ⟨rfl, hb⟩
    have HB1 := hide (bl_on HB.out hb)
    have P1 := HP.out.below hb
    obtain ⟨p0, p1⟩ := P1.cells
    have zP := P1.lt
    clear hb P1
    go_wp2_with fail
    refine (C4.out w1 HB1.out).mono ?_
    rintro e w2 ⟨rfl, hb⟩
    have HB2 := hide (bl_on HB1.out hb)
    clear hb p0 p1 zP
    go_wp2_with fail
    go_ret
    exact ⟨rfl, HB2.out⟩
end Go.Proofs.Ytmefgejggpimeaa.V
