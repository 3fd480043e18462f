/-
  The law: OrderMixes.
-/
import Derived.Test.YtoidgdbgpbcebaaK39
import Derived.Test.YtoidgdbgpbcebaaK18
import Derived.Test.YtoidgdbgpbcebaaK38
import Derived.Test.YtoidgdbgpbcebaaK24
import Derived.Test.YtoidgdbgpbcebaaK11
import Derived.Deep.DeepCutAuto
namespace Go.Proofs.Ytoidgdbgpbcebaa.V
open Go.RowKit
set_option linter.unusedVariables false

set_option maxRecDepth 100000 in
set_option maxHeartbeats 8000000 in
theorem orderMixes_walk (za : Option Addr) (zl zc : Nat) (zs : List Int) (ta : Option Addr) (tl tc : Nat) (ss : List Stm) (ma : Option Addr) (ml mc : Nat) (T : Tms) (a : Option Addr) (len cap : Nat) (L : Mem) (xa : Option Addr) (xl xc : Nat) (mix : List Int) (w : World) (hz : Ints w za zl zs) (hs : Stms w ta tl ss) (hT : TimesA w ma ml T) (hA : MemA w a len L) (hb24 : len * 24 ≤ 140737488355328) (hx : Ints w xa xl mix) :
    Calls Try.prog 5 #[.agg #[.slice za zl zc, .slice ta tl tc], .slice ma ml mc, .slice a len cap, .slice xa xl xc] w fun e w' => e = .returned (.bool true) ∧ Below w.heap.size w w' := by
  have B0 : Below w.heap.size w (w.alloc (.cells #[.slice za zl zc, .slice ta tl tc] 25)) := bl_new _
  have P0 := NsBlk.new w za zl zc ta tl tc
  obtain ⟨W, hW⟩ : ∃ W, W = w.alloc (.cells #[.slice za zl zc, .slice ta tl tc] 25) := ⟨_, rfl⟩
  rw [← hW] at B0 P0
  have C1 := hide (fun (V : World) (hb : Below w.heap.size w V) => oLegal_any za zl zc zs ta tl tc ss ma ml mc T V (hz.below hb) (hs.below hb) (hT.below hb))
  have C2 := hide (fun (V : World) (hb : Below w.heap.size w V) => oFree_any za zl zc zs ta tl tc ss ma ml mc T V (hz.below hb) (hs.below hb) (hT.below hb))
  have C3 := hide (fun (V : World) (hb : Below w.heap.size w V) => oRun_any za zl zc zs ta tl tc ss ma ml mc T a len cap L xa xl xc mix V (hz.below hb) (hs.below hb) (hT.below hb) (hA.below hb) hb24 (hx.below hb))
  have C4 := hide (fun (V : World) (hb : Below w.heap.size w V) (h : runE zs ss L ≠ 0) => nestRun_no za zl zc zs ta tl tc ss a len cap L V (hz.below hb) (hs.below hb) (hA.below hb) h)
  have C5 : Hid (∀ (V : World), Below w.heap.size w V → runE zs ss L = 0 → Calls Try.prog 13 #[.agg #[.slice za zl zc, .slice ta tl tc], .slice a len cap] V fun e V' => (∃ A c, e = .returned (.tuple #[.slice A len c, .int .i64 0]) ∧ MemA V' A len (runM ss L)) ∧ Below V.heap.size V V') := fun V hb h => by
    refine (callsIn_wide.1 (nestRun_ok za zl zc zs ta tl tc ss a len cap L V (hz.below hb) (hs.below hb) (hA.below hb) (by omega) h)).mono ?_
    rintro e W' ⟨⟨R, G, C, rfl, hm⟩, hb'⟩
    exact ⟨⟨_, _, rfl, hm.memA (by rw [runM_len]; exact hA.1) hA.2.1⟩, hb'⟩
  have HLL := hide hA.1
  obtain ⟨n0, n1⟩ := P0.cells
  have zn := P0.lt
  have HB := hide B0
  have HN := hide P0
  have HW := hide hW
  clear hz hs hT hA hx B0 P0 hW
  go_enter Try.func5, Try.ntmps5
  go_wp2_with fail
  rw [← HW.out]
  refine (alive11_ok W).mono ?_
  rintro e v0 ⟨rfl, hb⟩
  have HB0 := hide (bl_on HB.out hb)
  have HN0 := hide (HN.out.below hb)
  clear hb n0 n1 zn HN
  obtain ⟨n0, n1⟩ := HN0.out.cells
  have zn := HN0.out.lt
  go_wp2_with fail
  refine (C1.out v0 HB0.out).mono ?_
  rintro e w1 ⟨⟨v1, rfl, hv1⟩, hb⟩
  have HBb := hide (bl_on HB0.out hb)
  have HNb := hide (HN0.out.below hb)
  have HHV := hide hv1
  obtain ⟨E, hE⟩ : ∃ E, E = rightE zs ss T := ⟨_, rfl⟩
  rw [← hE]
  have HE := hide hE
  clear hb n0 n1 zn HN0 hE hv1
  rcases HHV.out with ⟨hE1, rfl⟩ | ⟨hE1, ⟨hNo, rfl⟩ | ⟨i, j, a1, l1, c1, a2, l2, c2, _, rfl, _, _⟩⟩
  · have qE : (E != 0) = true := by rw [HE.out]; simpa using hE1
    unfold zeroF
    clear hE1 HHV
    go_wp2_with fail
    go_ret
    exact ⟨rfl, bl_on HBb.out (bl_new _)⟩
  rotate_left
  · obtain rfl : E = 0 := by rw [HE.out]; exact hE1
    clear hE1 HHV HE
    go_wp2_with fail
    go_ret
    exact ⟨rfl, bl_on HBb.out (bl_new _)⟩
  obtain rfl : E = 0 := by rw [HE.out]; exact hE1
  have HR := hide hE1
  have HNO := hide hNo
  clear hE1 hNo HE HHV
  obtain ⟨w2, hw2⟩ : ∃ w2, w2 = w1.alloc (.cells #[.bool false, .int .i64 0, .slice none 0 0, .int .i64 0, .slice none 0 0] 38) := ⟨_, rfl⟩
  have B2 : Below w1.heap.size w1 w2 := by rw [hw2]; exact bl_new _
  have HF2 : Hid (w2.heap[w1.heap.size]? = some (.cells #[.bool false, .int .i64 0, .slice none 0 0, .int .i64 0, .slice none 0 0] 38 (0, 0))) := by rw [Hid, hw2]; exact World.alloc_heap_new _ _
  have HW2 := hide hw2
  have HB2 := hide (bl_on HBb.out B2)
  have HN2 := hide (HNb.out.below B2)
  obtain ⟨B7, hB7⟩ : ∃ B7, B7 = w1.heap.size := ⟨_, rfl⟩
  have hB7w : w.heap.size < B7 := by have := HNb.out.lt; omega
  have HHB := hide hB7
  rw [← hB7] at HF2
  clear hw2 B2 HNb HBb hB7
  obtain ⟨n0, n1⟩ := HN2.out.cells
  have zn := HN2.out.lt
  have RW5 := row5 (five (.bool false) (.int .i64 0) (.slice none 0 0) (.int .i64 0) (.slice none 0 0)) HF2.out
  have f0 := RW5.cell (i := 0) (by omega)
  simp only [five] at f0
  have zf := RW5.lt
  have HRW := hide RW5
  clear RW5
  go_upto_region 4 with fail
  rw [← HW2.out, ← HHB.out]
  go_wp2_with fail
  refine (C2.out w2 HB2.out).mono ?_
  rintro e w3 ⟨⟨v2, rfl, hv2⟩, hb⟩
  clear f0
  rw [HR.out]
  have HB3 := hide (bl_on HB2.out hb)
  have HN3 := hide (HN2.out.below hb)
  have R3 := HRW.out.of_block (hb.block _ zf)
  have HR3 := hide R3
  have f0 := R3.cell (i := 0) (by omega)
  have g0 := R3.frozen 0
  have f1 := R3.cell (i := 1) (by omega)
  have g1 := R3.frozen 1
  have f2 := R3.cell (i := 2) (by omega)
  have g2 := R3.frozen 2
  have f3 := R3.cell (i := 3) (by omega)
  have g3 := R3.frozen 3
  have f4 := R3.cell (i := 4) (by omega)
  have g4 := R3.frozen 4
  simp only [five] at f0 f1 f2 f3 f4
  have zf3 := R3.lt
  clear hb n0 n1 zn zf R3 HRW HN2 HB2
  rcases hv2 with ⟨hE1, _⟩ | ⟨_, ⟨hNo, rfl⟩ | ⟨i, j, a1, l1, c1, a2, l2, c2, _, rfl, _, _⟩⟩
  · exact absurd HR.out hE1
  rotate_left
  · go_upto_region 7 with fail
    have hput : ((((w3.setCell ⟨B7, 0, none⟩ (.bool true)).setCell ⟨B7, 1, none⟩ (.int .i64 (((spK ss ss.length)[i]?.getD spD).1 : Int))).setCell ⟨B7, 2, none⟩ (.slice a1 l1 c1)).setCell ⟨B7, 3, none⟩ (.int .i64 (((spK ss ss.length)[j]?.getD spD).1 : Int))).setCell ⟨B7, 4, none⟩ (.slice a2 l2 c2) = put5 w3 B7 (five (.bool true) (.int .i64 (((spK ss ss.length)[i]?.getD spD).1 : Int)) (.slice a1 l1 c1) (.int .i64 (((spK ss ss.length)[j]?.getD spD).1 : Int)) (.slice a2 l2 c2)) := rfl
    rw [hput]
    clear hput
    have S4 := set5 HR3.out (five (.bool true) (.int .i64 (((spK ss ss.length)[i]?.getD spD).1 : Int)) (.slice a1 l1 c1) (.int .i64 (((spK ss ss.length)[j]?.getD spD).1 : Int)) (.slice a2 l2 c2))
    have HB4 := hide (below5 HB3.out (b := B7) (by omega) (five (.bool true) (.int .i64 (((spK ss ss.length)[i]?.getD spD).1 : Int)) (.slice a1 l1 c1) (.int .i64 (((spK ss ss.length)[j]?.getD spD).1 : Int)) (.slice a2 l2 c2)))
    generalize put5 w3 B7 (five (.bool true) (.int .i64 (((spK ss ss.length)[i]?.getD spD).1 : Int)) (.slice a1 l1 c1) (.int .i64 (((spK ss ss.length)[j]?.getD spD).1 : Int)) (.slice a2 l2 c2)) = w4 at S4 HB4 ⊢
    have k0 := S4.cell (i := 0) (by omega)
    simp only [five] at k0
    have zk := S4.lt
    clear S4 f0 f1 f2 f3 f4 g0 g1 g2 g3 g4 zf3
    go_wp2_with fail
    go_ret
    exact ⟨rfl, HB4.out⟩
  have HNF := hide hNo
  clear hNo
  go_upto_region 7 with fail
  have hput : ((((w3.setCell ⟨B7, 0, none⟩ (.bool false)).setCell ⟨B7, 1, none⟩ (.int .i64 0)).setCell ⟨B7, 2, none⟩ (.slice none 0 0)).setCell ⟨B7, 3, none⟩ (.int .i64 0)).setCell ⟨B7, 4, none⟩ (.slice none 0 0) = put5 w3 B7 (five (.bool false) (.int .i64 0) (.slice none 0 0) (.int .i64 0) (.slice none 0 0)) := rfl
  rw [hput]
  clear hput f0 f1 f2 f3 f4 g0 g1 g2 g3 g4 zf3
  have S4 := set5 HR3.out (five (.bool false) (.int .i64 0) (.slice none 0 0) (.int .i64 0) (.slice none 0 0))
  have HB4 := hide (below5 HB3.out (b := B7) (by omega) (five (.bool false) (.int .i64 0) (.slice none 0 0) (.int .i64 0) (.slice none 0 0)))
  have HN4 : Hid (NsBlk (put5 w3 B7 (five (.bool false) (.int .i64 0) (.slice none 0 0) (.int .i64 0) (.slice none 0 0))) w.heap.size za zl zc ta tl tc) := (heap_put5 (by omega) _).trans HN3.out
  generalize put5 w3 B7 (five (.bool false) (.int .i64 0) (.slice none 0 0) (.int .i64 0) (.slice none 0 0)) = w4 at S4 HB4 HN4 ⊢
  have k0 := S4.cell (i := 0) (by omega)
  simp only [five] at k0
  have zk := S4.lt
  obtain ⟨n0, n1⟩ := HN4.out.cells
  have zn := HN4.out.lt
  clear S4 HB3 HN3 HR3
  go_wp2_with fail
  by_cases hr : runE zs ss L = 0
  · have hfit : fitsE zs L = 0 := by
      have hne : nestE zs ss = 0 := (rightE_ok HR.out).ord.nest
      unfold runE at hr
      rwa [if_neg (by simpa using hne)] at hr
    obtain ⟨o1, o2⟩ := ord_keeps mix HR.out HNO.out (fun _ => HNF.out) hfit
    rw [o1, o2] at C3
    have HC5 := hide (fun V hb => C5.out V hb hr)
    clear hr hfit o1 o2
    refine (HC5.out w4 HB4.out).mono ?_
    rintro e w5 ⟨⟨A, c, rfl, hm⟩, hb⟩
    have HB5 := hide (bl_on HB4.out hb)
    have HN5 := hide (HN4.out.below hb)
    have HM5 := hide hm
    clear hb n0 n1 zn hm k0 zk
    obtain ⟨n0, n1⟩ := HN5.out.cells
    have zn := HN5.out.lt
    go_wp2_with fail
    refine (C3.out w5 HB5.out).mono ?_
    rintro e w6 ⟨⟨A', n', c', rfl, hm'⟩, hb⟩
    have hn' : n' = len := by rw [← hm'.1, runM_len]; exact HLL.out
    subst hn'
    have HB6 := hide (bl_on HB5.out hb)
    have HSM := hide (sameMem_any A c A' c' n' (runM ss L) w6 (HM5.out.below hb) hm')
    clear hb n0 n1 zn hm'
    go_wp2_with fail
    refine HSM.out.mono ?_
    rintro e w7 ⟨rfl, nn, rfl⟩
    go_wp2_with fail
    go_ret
    exact ⟨rfl, bl_on HB6.out (below_drewN _ nn)⟩
  · have HC4 := hide (fun V hb => C4.out V hb hr)
    have qr : (runE zs ss L != 0) = true := by simpa using hr
    clear hr
    refine (HC4.out w4 HB4.out).mono ?_
    rintro e w5 ⟨rfl, hb⟩
    have HB5 := hide (bl_on HB4.out hb)
    clear hb n0 n1 zn k0 zk
    go_wp2_with fail
    go_ret
    exact ⟨rfl, HB5.out⟩
end Go.Proofs.Ytoidgdbgpbcebaa.V
