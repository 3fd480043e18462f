/-
  The law: OrderRuns.
-/
import Derived.Test.YtoidgdbgpbcebaaK39
import Derived.Test.YtoidgdbgpbcebaaK44
import Derived.Test.YtoidgdbgpbcebaaK11
import Derived.Deep.DeepCutAuto
namespace Go.Proofs.Ytoidgdbgpbcebaa.V
open Go.RowKit
set_option linter.unusedVariables false

set_option maxRecDepth 100000 in
set_option maxHeartbeats 8000000 in
theorem orderRuns_walk (za : Option Addr) (zl zc : Nat) (zs : List Int) (ta : Option Addr) (tl tc : Nat) (ss : List Stm) (ma : Option Addr) (ml mc : Nat) (T : Tms) (a : Option Addr) (len cap : Nat) (L : Mem) (xa : Option Addr) (xl xc : Nat) (mix : List Int) (w : World) (hz : Ints w za zl zs) (hs : Stms w ta tl ss) (hT : TimesA w ma ml T) (hA : MemA w a len L) (hb24 : len * 24 ≤ 140737488355328) (hx : Ints w xa xl mix) :
    Calls Try.prog 3 #[.agg #[.slice za zl zc, .slice ta tl tc], .slice ma ml mc, .slice a len cap, .slice xa xl xc] w fun e w' => e = .returned (.bool true) ∧ Below w.heap.size w w' := by
  have B0 : Below w.heap.size w (w.alloc (.cells #[.slice za zl zc, .slice ta tl tc] 25)) := bl_new _
  have P0 := NsBlk.new w za zl zc ta tl tc
  obtain ⟨W, hW⟩ : ∃ W, W = w.alloc (.cells #[.slice za zl zc, .slice ta tl tc] 25) := ⟨_, rfl⟩
  rw [← hW] at B0 P0
  have C1 := hide (fun (V : World) (hb : Below w.heap.size w V) => oRun_any za zl zc zs ta tl tc ss ma ml mc T a len cap L xa xl xc mix V (hz.below hb) (hs.below hb) (hT.below hb) (hA.below hb) hb24 (hx.below hb))
  have C2 := hide (fun (V : World) (hb : Below w.heap.size w V) => rORun_any za zl zc zs ta tl tc ss ma ml mc T a len cap L xa xl xc mix V (hz.below hb) (hs.below hb) (hT.below hb) (hA.below hb) hb24 (hx.below hb))
  obtain ⟨E, hE⟩ : ∃ E, E = ordRunE zs ss T L := ⟨_, rfl⟩
  obtain ⟨M, hM⟩ : ∃ M, M = ordM zs ss T mix L := ⟨_, rfl⟩
  rw [← hE, ← hM] at C1 C2
  have qE : (E == E) = true := by simp
  obtain ⟨n0, n1⟩ := P0.cells
  have zn := P0.lt
  have HB := hide B0
  have HN := hide P0
  have HW := hide hW
  clear hz hs hT hA hx B0 P0 hW hE hM
  go_enter Try.func3, Try.ntmps3
  go_wp2_with fail
  rw [← HW.out]
  refine (C1.out W HB.out).mono ?_
  rintro e w5 ⟨⟨A, n, c, rfl, hm⟩, hb⟩
  have HB5 := hide (bl_on HB.out hb)
  have HN5 := hide (HN.out.below hb)
  have HM5 := hide hm
  have HML := hide hm.1
  clear hb n0 n1 zn hm
  obtain ⟨n0, n1⟩ := HN5.out.cells
  have zn := HN5.out.lt
  go_wp2_with fail
  refine (C2.out w5 HB5.out).mono ?_
  rintro e w6 ⟨⟨A', n', c', rfl, hm'⟩, hb⟩
  have hn' : n' = n := by rw [← hm'.1]; exact HML.out
  subst hn'
  have HB6 := hide (bl_on HB5.out hb)
  have HSM := hide (sameMem_any A c A' c' n' M w6 (HM5.out.below hb) hm')
  clear hb n0 n1 zn hm'
  go_wp2_with fail
  refine HSM.out.mono ?_
  rintro e w7 ⟨rfl, nn, rfl⟩
  go_wp2_with fail
  go_ret
  exact ⟨rfl, bl_on HB6.out (below_drewN _ nn)⟩
end Go.Proofs.Ytoidgdbgpbcebaa.V
