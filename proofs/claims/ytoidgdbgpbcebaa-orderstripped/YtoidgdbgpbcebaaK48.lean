/-
  The law: OrderStripped.
-/
import Derived.Test.YtoidgdbgpbcebaaK39
import Derived.Test.YtoidgdbgpbcebaaK47
import Derived.Test.YtoidgdbgpbcebaaK24
import Derived.Test.YtoidgdbgpbcebaaK11
import Derived.Deep.DeepCutAuto
namespace Go.Proofs.Ytoidgdbgpbcebaa.V
open Go.RowKit
set_option linter.unusedVariables false

/-- What nest.Run tells. -/
theorem nestRun_all (za : Option Addr) (zl zc : Nat) (zs : List Int) (ta : Option Addr) (tl tc : Nat) (ss : List Stm) (a : Option Addr) (len cap : Nat) (L : Mem) (V : World) (hz : Ints V za zl zs) (hs : Stms V ta tl ss) (hA : MemA V a len L) (hb24 : len * 24 ≤ 140737488355328) :
    Calls Try.prog 13 #[.agg #[.slice za zl zc, .slice ta tl tc], .slice a len cap] V fun e V' => (∃ A n c, e = .returned (.tuple #[.slice A n c, .int .i64 (runE zs ss L)]) ∧ MemA V' A n (if runE zs ss L = 0 then runM ss L else [])) ∧ Below V.heap.size V V' := by
  by_cases h : runE zs ss L = 0
  · rw [if_pos h, h]
    refine (callsIn_wide.1 (nestRun_ok za zl zc zs ta tl tc ss a len cap L V hz hs hA (by omega) h)).mono ?_
    rintro e W' ⟨⟨R, G, C, rfl, hm⟩, hb'⟩
    exact ⟨⟨_, _, _, rfl, hm.memA (by rw [runM_len]; exact hA.1) hA.2.1⟩, hb'⟩
  · rw [if_neg h]
    refine (nestRun_no za zl zc zs ta tl tc ss a len cap L V hz hs hA h).mono ?_
    rintro e W' ⟨rfl, hb'⟩
    exact ⟨⟨_, _, _, rfl, rfl, by omega, .inl rfl⟩, hb'⟩
set_option maxRecDepth 100000 in
set_option maxHeartbeats 8000000 in
theorem orderStripped_walk (za : Option Addr) (zl zc : Nat) (zs : List Int) (ta : Option Addr) (tl tc : Nat) (ss : List Stm) (i k n : Int) (a : Option Addr) (len cap : Nat) (L : Mem) (w : World) (hz : Ints w za zl zs) (hs : Stms w ta tl ss) (hi : B64 i) (hk : B64 k) (hn : B64 n) (hA : MemA w a len L) (hb24 : len * 24 ≤ 140737488355328) (hzb : zl * 8 ≤ 140737488355328) :
    Calls Try.prog 6 #[.agg #[.slice za zl zc, .slice ta tl tc], .int .i64 i, .int .i64 k, .int .i64 n, .slice a len cap] w fun e w' => e = .returned (.bool true) ∧ Below w.heap.size w w' := by
  have B0 : Below w.heap.size w (w.alloc (.cells #[.slice za zl zc, .slice ta tl tc] 25)) := bl_new _
  have P0 := NsBlk.new w za zl zc ta tl tc
  obtain ⟨W, hW⟩ : ∃ W, W = w.alloc (.cells #[.slice za zl zc, .slice ta tl tc] 25) := ⟨_, rfl⟩
  rw [← hW] at B0 P0
  have C0 := hide (fun (V : World) (hb : Below w.heap.size w V) => oStrip_any za zl zc zs ta tl tc ss i k n V (hz.below hb) (hs.below hb) hi hk hn hzb)
  have C4 := hide (fun (V : World) (hb : Below w.heap.size w V) => nestRun_all za zl zc zs ta tl tc ss a len cap L V (hz.below hb) (hs.below hb) (hA.below hb) hb24)
  have C5 := hide (fun (V : World) (hb : Below w.heap.size w V) (za' : Option Addr) (zl' zc' : Nat) (zs' : List Int) (ta' : Option Addr) (tl' tc' : Nat) (ss' : List Stm) (hz' : Ints V za' zl' zs') (hs' : Stms V ta' tl' ss') => nestRun_all za' zl' zc' zs' ta' tl' tc' ss' a len cap L V hz' hs' (hA.below hb) hb24)
  obtain ⟨n0, n1⟩ := P0.cells
  have zn := P0.lt
  have HB := hide B0
  have HN := hide P0
  have HW := hide hW
  clear hz hs hA hi hk hn B0 P0 hW
  go_enter Try.func6, Try.ntmps6
  go_wp2_with fail
  rw [← HW.out]
  refine (alive11_ok W).mono ?_
  rintro e v0 ⟨rfl, hb⟩
  have HB0 := hide (bl_on HB.out hb)
  have HN0 := hide (HN.out.below hb)
  clear hb n0 n1 zn HN
  obtain ⟨n0, n1⟩ := HN0.out.cells
  have zn := HN0.out.lt
  go_wp2_with fail
  refine (C0.out v0 HB0.out).mono ?_
  rintro e w1 ⟨⟨za', zl', zc', ta', tl', tc', zs', ss', rfl, hz', hs', hok, _⟩, hb⟩
  have HBb := hide (bl_on HB0.out hb)
  have HNb := hide (HN0.out.below hb)
  have HZ := hide hz'
  have HS := hide hs'
  have HOK := hide hok
  obtain ⟨E, hE⟩ : ∃ E, E = stripE zs ss i k n := ⟨_, rfl⟩
  rw [← hE]
  have HE := hide hE
  clear hb n0 n1 zn HN0 hE hz' hs' hok
  by_cases hE0 : E = 0
  rotate_left
  · have qE : (E != 0) = true := by simpa using hE0
    clear hE0
    go_wp2_with fail
    go_ret
    exact ⟨rfl, bl_on HBb.out (bl_new _)⟩
  have hR : stripE zs ss i k n = 0 := by rw [← HE.out]; exact hE0
  obtain ⟨e1, e2⟩ := HOK.out hR
  subst hE0
  subst e1
  obtain ⟨r1, r2⟩ := strip_run (stripE_ok hR) L
  rw [← e2] at r1 r2
  clear HE HOK hR e2
  obtain ⟨w2, hw2⟩ : ∃ w2, w2 = w1.alloc (.cells #[.slice za' zl' zc', .slice ta' tl' tc'] 25) := ⟨_, rfl⟩
  have B2 : Below w1.heap.size w1 w2 := by rw [hw2]; exact bl_new _
  have HF2 : Hid (NsBlk w2 w1.heap.size za' zl' zc' ta' tl' tc') := by rw [Hid, hw2]; exact World.alloc_heap_new _ _
  have HW2 := hide hw2
  have HB2 := hide (bl_on HBb.out B2)
  have HN2 := hide (HNb.out.below B2)
  have HZ2 := hide (HZ.out.below B2)
  have HS2 := hide (HS.out.below B2)
  obtain ⟨B7, hB7⟩ : ∃ B7, B7 = w1.heap.size := ⟨_, rfl⟩
  have HHB := hide hB7
  rw [← hB7] at HF2
  clear hw2 B2 HNb HBb HZ HS hB7
  obtain ⟨n0, n1⟩ := HN2.out.cells
  have zn := HN2.out.lt
  have HC5 := hide (fun (V : World) (hb : Below w2.heap.size w2 V) => C5.out V (bl_on HB2.out hb) za' zl' zc' zs' ta' tl' tc' ss' (HZ2.out.below hb) (HS2.out.below hb))
  rw [r1, r2] at HC5
  obtain ⟨M, hM⟩ : ∃ M, M = if runE zs' ss L = 0 then runM ss L else [] := ⟨_, rfl⟩
  rw [← hM] at HC5 C4
  obtain ⟨E, hE⟩ : ∃ E, E = runE zs' ss L := ⟨_, rfl⟩
  rw [← hE] at HC5 C4
  have qE : (E == E) = true := by simp
  clear r1 r2 hM hE
  go_upto_region 4 with fail
  rw [← HW2.out, ← HHB.out]
  go_wp2_with fail
  refine (C4.out w2 HB2.out).mono ?_
  rintro e w5 ⟨⟨A, n, c, rfl, hm⟩, hb⟩
  have HB5 := hide (bl_on HB2.out hb)
  have HF5 := hide (HF2.out.below hb)
  have HM5 := hide hm
  have HML := hide hm.1
  have HC6 := hide (HC5.out w5 hb)
  clear hb n0 n1 zn hm
  obtain ⟨n0, n1⟩ := HF5.out.cells
  have zn := HF5.out.lt
  go_wp2_with fail
  refine HC6.out.mono ?_
  rintro e w6 ⟨⟨A', n', c', rfl, hm'⟩, hb⟩
  have hn' : n' = n := by rw [← hm'.1]; exact HML.out
  subst hn'
  have HB6 := hide (bl_on HB5.out hb)
  have HSM := hide (sameMem_any A c A' c' n' M w6 (HM5.out.below hb) hm')
  clear hb n0 n1 zn hm'
  go_wp2_with fail
  refine HSM.out.mono ?_
  rintro e w7 ⟨rfl, nn, rfl⟩
  go_wp2_with fail
  go_ret
  exact ⟨rfl, bl_on HB6.out (below_drewN _ nn)⟩
end Go.Proofs.Ytoidgdbgpbcebaa.V
