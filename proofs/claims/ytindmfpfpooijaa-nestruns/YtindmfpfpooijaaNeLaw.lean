/-
  NestRuns: the law's walk.
-/
import Derived.Test.YtindmfpfpooijaaNeRRun2
import Derived.Test.YtindmfpfpooijaaNeRun
import Derived.Test.YtindmfpfpooijaaNeSame
import Derived.BigRegion
import Derived.BigQuiet
namespace Go.Proofs.Ytindmfpfpooijaa.V
open Go.RowKit
set_option linter.unusedVariables false

set_option maxRecDepth 100000 in
set_option maxHeartbeats 8000000 in
theorem nestRuns_walk (za : Option Addr) (zl zc : Nat) (zs : List Int) (ta : Option Addr) (tl tc : Nat) (ss : List Stm) (a : Option Addr) (len cap : Nat) (L : Mem) (w : World) (hz : Ints w za zl zs) (hs : Stms w ta tl ss) (hA : MemA w a len L) (hb24 : len * 24 ≤ 140737488355328) :
    Calls Try.prog 3 #[.agg #[.slice za zl zc, .slice ta tl tc], .slice a len cap] w fun e w' => e = .returned (.bool true) ∧ Below w.heap.size w w' := by
  have B1 : Below w.heap.size w (w.alloc (.cells #[.slice za zl zc, .slice ta tl tc] 25)) := bl_new _
  have P0 := NsBlk.new w za zl zc ta tl tc
  obtain ⟨p0, p1⟩ := P0.cells
  obtain ⟨E, hE⟩ : ∃ E, E = runE zs ss L := ⟨_, rfl⟩
  obtain ⟨E2, hE2⟩ : ∃ E2, E2 = nestE zs ss := ⟨_, rfl⟩
  obtain ⟨n, M, hn, hM⟩ : ∃ (n : Nat) (M : Mem), n ≤ 9223372036854775807 ∧ (∀ W, Below w.heap.size w W → (Calls Try.prog 4 #[.agg #[.slice za zl zc, .slice ta tl tc], .slice a len cap] W fun e W' => (∃ A c, e = .returned (.tuple #[.slice A n c, .int .i64 E]) ∧ MemA W' A n M) ∧ Below W.heap.size W W') ∧ (Calls Try.prog 5 #[.agg #[.slice za zl zc, .slice ta tl tc], .slice a len cap] W fun e W' => (∃ A c, e = .returned (.tuple #[.slice A n c, .int .i64 E]) ∧ MemA W' A n M) ∧ Below W.heap.size W W')) := by
    by_cases hE0 : runE zs ss L = 0
    · refine ⟨len, runM ss L, hA.2.1, fun W hb => ⟨?_, ?_⟩⟩
      · refine (callsIn_wide.1 (nestRun_ok za zl zc zs ta tl tc ss a len cap L W (hz.below hb) (hs.below hb) (hA.below hb) (by omega) hE0)).mono ?_
        rintro e W' ⟨⟨R, G, C, rfl, hm⟩, hb'⟩
        exact ⟨⟨_, _, by rw [hE, hE0], hm.memA (by rw [runM_len]; exact hA.1) hA.2.1⟩, hb'⟩
      · refine (rRun_ok za zl zc zs ta tl tc ss a len cap L W (hz.below hb) (hs.below hb) (hA.below hb) hb24 hE0).mono ?_
        rintro e W' ⟨⟨A, c, rfl, _, G, C, hm⟩, hb'⟩
        exact ⟨⟨_, _, by rw [hE, hE0], hm.memA (by rw [runM_len]; exact hA.1) hA.2.1⟩, hb'⟩
    · refine ⟨0, [], by omega, fun W hb => ⟨?_, ?_⟩⟩
      · refine (nestRun_no za zl zc zs ta tl tc ss a len cap L W (hz.below hb) (hs.below hb) (hA.below hb) hE0).mono ?_
        rintro e W' ⟨rfl, hb'⟩
        exact ⟨⟨_, _, by rw [hE], rfl, by omega, .inl rfl⟩, hb'⟩
      · refine (rRun_no za zl zc zs ta tl tc ss a len cap L W (hz.below hb) (hs.below hb) (hA.below hb) hE0).mono ?_
        rintro e W' ⟨rfl, hb'⟩
        exact ⟨⟨_, _, by rw [hE], rfl, by omega, .inl rfl⟩, hb'⟩
  have C1 := hide (fun W hb => (hM W hb).1)
  have C2 := hide (fun W hb => (hM W hb).2)
  have C4 : Hid (∀ W, Below w.heap.size w W → Calls Try.prog 7 #[.agg #[.slice za zl zc, .slice ta tl tc]] W fun e w' => e = .returned (.int .i64 E2) ∧ Below W.heap.size W w') := fun W hb => by rw [hE2]; exact nestWrong_any za zl zc zs ta tl tc ss W (hz.below hb) (hs.below hb)
  have C5 : Hid (∀ W, Below w.heap.size w W → Calls Try.prog 8 #[.agg #[.slice za zl zc, .slice ta tl tc]] W fun e w' => e = .returned (.int .i64 E2) ∧ Below W.heap.size W w') := fun W hb => by rw [hE2]; exact rNestWrong_any za zl zc zs ta tl tc ss W (hz.below hb) (hs.below hb)
  have HB := hide B1
  have HP := hide P0
  have q1 : (E == E) = true := by simp
  have q2 : (E2 == E2) = true := by simp
  clear hz hs hA hM hE hE2 B1 P0
  go_enter Try.func3, Try.ntmps3
  go_wp2_with fail
  refine (C1.out _ HB.out).mono ?_
  rintro e w1 ⟨⟨A, c, rfl, hm⟩, hb⟩
  have HB1 := hide (bl_on HB.out hb)
  have P1 := HP.out.below hb
  have HP1 := hide P1
  obtain ⟨p0, p1⟩ := P1.cells
  have zP := P1.lt
  have HMA := hide hm
  clear hb P1 hm
  go_wp2_with fail
  refine (C2.out _ HB1.out).mono ?_
  rintro e w2 ⟨⟨A', c', rfl, hm⟩, hb⟩
  have HB2 := hide (bl_on HB1.out hb)
  have P2 := HP1.out.below hb
  have HP2 := hide P2
  obtain ⟨p2, p3⟩ := P2.cells
  have zP2 := P2.lt
  have HMA1 := hide (HMA.out.below hb)
  have HMA2 := hide hm
  clear hb P2 p0 p1 zP hm
  go_wp2_with fail
  have HBd := hide (HB2.out.drew)
  have HPd : Hid (NsBlk w2.drew w.heap.size za zl zc ta tl tc) := HP2.out
  have HSM : Hid (Calls Try.prog 6 #[.slice A n c, .slice A' n c'] w2.drew fun e w' => e = .returned (.bool true) ∧ ∃ n, w' = w2.drew.drewN n) := sameMem_any A c A' c' n M w2.drew HMA1.out HMA2.out
  go_region_with (first
    | (go_at_call 6; refine HSM.out.mono ?_; rintro e w3 ⟨rfl, nn, rfl⟩; have HB3 := hide (bl_on HBd.out (below_drewN _ nn)); have P3 := HPd.out.below (below_drewN _ nn); have HP3 := hide P3; obtain ⟨p4, p5⟩ := P3.cells; have zP3 := P3.lt; clear P3)
    | (go_at_call 7; refine (C4.out _ (bl_on HB2.out (below_drewN _ (1 + nn)))).mono ?_; rintro e w4 ⟨rfl, hb⟩; have HB4 := hide (bl_on (bl_on HB2.out (below_drewN _ (1 + nn))) hb); have P4 := (HP2.out.below (below_drewN _ (1 + nn))).below hb; have HP4 := hide P4; obtain ⟨p6, p7⟩ := P4.cells; have zP4 := P4.lt; clear hb P4)
    | (go_at_call 8; refine (C5.out _ HB4.out).mono ?_; rintro e w5 ⟨rfl, hb⟩; have HB5 := hide (bl_on HB4.out hb); clear hb))
  all_goals
    go_wp2_with fail
    go_ret
    first | exact ⟨rfl, HB5.out⟩ | exact ⟨by simp [Act.put], HB5.out⟩
end Go.Proofs.Ytindmfpfpooijaa.V
