/-
  The law: OrderPlain.
-/
import Derived.Test.YtoidgdbgpbcebaaK39
import Derived.Test.YtoidgdbgpbcebaaK18
import Derived.Test.YtoidgdbgpbcebaaK38
import Derived.Test.YtoidgdbgpbcebaaK45
import Derived.Test.YtoidgdbgpbcebaaK24
import Derived.Test.YtoidgdbgpbcebaaK11
import Derived.Deep.DeepCutAuto
namespace Go.Proofs.Ytoidgdbgpbcebaa.V
open Go.RowKit
set_option linter.unusedVariables false

/-- At plain times nothing is told. -/
theorem plain_told {zs : List Int} {ss : List Stm} {al : Bool} {w : World} {v : Value} (hR : rightE zs ss (plainT ss) = 0) (h : FindV zs ss (plainT ss) al w v) : v = zeroF := by
  have hn := nestE_ok (rightE_ok hR).ord.nest
  rcases h with ⟨h1, _⟩ | ⟨_, ⟨_, h2⟩ | ⟨i, j, _, _, _, _, _, _, h2, _⟩⟩
  · exact absurd hR h1
  · exact h2
  · exact (h2.none (plain_none (memZ zs) zs ss hn al)).elim
theorem plain_run {zs : List Int} {ss : List Stm} {L : Mem} (mix : List Int) (hR : rightE zs ss (plainT ss) = 0) : ordRunE zs ss (plainT ss) L = runE zs ss L ∧ (runE zs ss L = 0 → ordM zs ss (plainT ss) mix L = runM ss L) ∧ (runE zs ss L ≠ 0 → ordM zs ss (plainT ss) mix L = []) := by
  have hne := (rightE_ok hR).ord.nest
  have hn := nestE_ok hne
  have e1 : runE zs ss L = fitsE zs L := by unfold runE; rw [if_neg (by simpa using hne)]
  have e2 : ordRunE zs ss (plainT ss) L = fitsE zs L := by unfold ordRunE; rw [if_neg (by simpa using hR)]
  refine ⟨by rw [e1, e2], fun h => ?_, fun h => ?_⟩
  · rw [e1] at h
    exact (ord_keeps mix hR (plain_none (memZ zs) zs ss hn false) (fun _ => plain_none (memZ zs) zs ss hn true) h).2
  · unfold ordM
    rw [if_neg (by rw [e2, ← e1]; exact h)]
set_option maxRecDepth 100000 in
set_option maxHeartbeats 8000000 in
theorem orderPlain_walk (za : Option Addr) (zl zc : Nat) (zs : List Int) (ta : Option Addr) (tl tc : Nat) (ss : List Stm) (a : Option Addr) (len cap : Nat) (L : Mem) (xa : Option Addr) (xl xc : Nat) (mix : List Int) (w : World) (hz : Ints w za zl zs) (hs : Stms w ta tl ss) (hA : MemA w a len L) (hb24 : len * 24 ≤ 140737488355328) (hx : Ints w xa xl mix) (htb : tl * 24 ≤ 140737488355328) :
    Calls Try.prog 7 #[.agg #[.slice za zl zc, .slice ta tl tc], .slice a len cap, .slice xa xl xc] w fun e w' => e = .returned (.bool true) ∧ Below w.heap.size w w' := by
  have B0 : Below w.heap.size w (w.alloc (.cells #[.slice za zl zc, .slice ta tl tc] 25)) := bl_new _
  have P0 := NsBlk.new w za zl zc ta tl tc
  obtain ⟨W, hW⟩ : ∃ W, W = w.alloc (.cells #[.slice za zl zc, .slice ta tl tc] 25) := ⟨_, rfl⟩
  rw [← hW] at B0 P0
  have C0 := hide (fun (V : World) (hb : Below w.heap.size w V) => oPlain_any za zl zc zs ta tl tc ss V (hz.below hb) (hs.below hb) htb)
  have C1 := hide (fun (V : World) (hb : Below w.heap.size w V) (ma : Option Addr) (ml mc : Nat) (T : Tms) (hT : TimesA V ma ml T) => oLegal_any za zl zc zs ta tl tc ss ma ml mc T V (hz.below hb) (hs.below hb) hT)
  have C2 := hide (fun (V : World) (hb : Below w.heap.size w V) (ma : Option Addr) (ml mc : Nat) (T : Tms) (hT : TimesA V ma ml T) => oFree_any za zl zc zs ta tl tc ss ma ml mc T V (hz.below hb) (hs.below hb) hT)
  have C3 := hide (fun (V : World) (hb : Below w.heap.size w V) (ma : Option Addr) (ml mc : Nat) (T : Tms) (hT : TimesA V ma ml T) => oRun_any za zl zc zs ta tl tc ss ma ml mc T a len cap L xa xl xc mix V (hz.below hb) (hs.below hb) hT (hA.below hb) hb24 (hx.below hb))
  have C4 : Hid (∀ (V : World), Below w.heap.size w V → Calls Try.prog 13 #[.agg #[.slice za zl zc, .slice ta tl tc], .slice a len cap] V fun e V' => (∃ A n c, e = .returned (.tuple #[.slice A n c, .int .i64 (runE zs ss L)]) ∧ MemA V' A n (if runE zs ss L = 0 then runM ss L else [])) ∧ Below V.heap.size V V') := fun V hb => by
    by_cases h : runE zs ss L = 0
    · rw [if_pos h, h]
      refine (callsIn_wide.1 (nestRun_ok za zl zc zs ta tl tc ss a len cap L V (hz.below hb) (hs.below hb) (hA.below hb) (by omega) h)).mono ?_
      rintro e W' ⟨⟨R, G, C, rfl, hm⟩, hb'⟩
      exact ⟨⟨_, _, _, rfl, hm.memA (by rw [runM_len]; exact hA.1) hA.2.1⟩, hb'⟩
    · rw [if_neg h]
      refine (nestRun_no za zl zc zs ta tl tc ss a len cap L V (hz.below hb) (hs.below hb) (hA.below hb) h).mono ?_
      rintro e W' ⟨rfl, hb'⟩
      exact ⟨⟨_, _, _, rfl, rfl, by omega, .inl rfl⟩, hb'⟩
  obtain ⟨n0, n1⟩ := P0.cells
  have zn := P0.lt
  have HB := hide B0
  have HN := hide P0
  have HW := hide hW
  clear hz hs hA hx B0 P0 hW
  go_enter Try.func7, Try.ntmps7
  go_wp2_with fail
  rw [← HW.out]
  refine (alive11_ok W).mono ?_
  rintro e v0 ⟨rfl, hb⟩
  have HB0 := hide (bl_on HB.out hb)
  have HN0 := hide (HN.out.below hb)
  clear hb n0 n1 zn HN
  obtain ⟨n0, n1⟩ := HN0.out.cells
  have zn := HN0.out.lt
  go_wp2_with fail
  refine (C0.out v0 HB0.out).mono ?_
  rintro e v1 ⟨⟨ma, ml, mc, T, rfl, hT, hTp⟩, hb⟩
  have HT1 := hide hT
  have HTP := hide hTp
  have HB1 := hide (bl_on HB0.out hb)
  have HN1 := hide (HN0.out.below hb)
  clear hb n0 n1 zn HN0 hT hTp
  obtain ⟨n0, n1⟩ := HN1.out.cells
  have zn := HN1.out.lt
  go_wp2_with fail
  refine (C1.out v1 HB1.out ma ml mc T HT1.out).mono ?_
  rintro e w1 ⟨⟨u1, rfl, hv1⟩, hb⟩
  have HBb := hide (bl_on HB1.out hb)
  have HNb := hide (HN1.out.below hb)
  have HTb := hide (HT1.out.below hb)
  have HHV := hide hv1
  obtain ⟨E, hE⟩ : ∃ E, E = rightE zs ss T := ⟨_, rfl⟩
  rw [← hE]
  have HE := hide hE
  clear hb n0 n1 zn HN1 hE hv1
  by_cases hE0 : E = 0
  rotate_left
  · have qE : (E != 0) = true := by simpa using hE0
    obtain ⟨x, i, a1, l1, c1, i2, a2, l2, c2, rfl⟩ := HHV.out.words
    clear hE0 HHV
    go_wp2_with fail
    go_ret
    exact ⟨rfl, bl_on HBb.out (bl_new _)⟩
  have hR : rightE zs ss T = 0 := by rw [← HE.out]; exact hE0
  have hTT := HTP.out (rightE_ok hR).ord.nest
  subst hTT
  subst hE0
  have HR := hide hR
  obtain rfl := plain_told hR HHV.out
  unfold zeroF
  clear hR HE HHV HTP
  obtain ⟨w2, hw2⟩ : ∃ w2, w2 = w1.alloc (.cells #[.bool false, .int .i64 0, .slice none 0 0, .int .i64 0, .slice none 0 0] 38) := ⟨_, rfl⟩
  have B2 : Below w1.heap.size w1 w2 := by rw [hw2]; exact bl_new _
  have HF2 : Hid (w2.heap[w1.heap.size]? = some (.cells #[.bool false, .int .i64 0, .slice none 0 0, .int .i64 0, .slice none 0 0] 38 (0, 0))) := by rw [Hid, hw2]; exact World.alloc_heap_new _ _
  have HW2 := hide hw2
  have HB2 := hide (bl_on HBb.out B2)
  have HN2 := hide (HNb.out.below B2)
  have HT2 := hide (HTb.out.below B2)
  obtain ⟨B7, hB7⟩ : ∃ B7, B7 = w1.heap.size := ⟨_, rfl⟩
  have HHB := hide hB7
  rw [← hB7] at HF2
  clear hw2 B2 HNb HBb HTb hB7
  obtain ⟨n0, n1⟩ := HN2.out.cells
  have zn := HN2.out.lt
  go_upto_region 5 with fail
  rw [← HW2.out, ← HHB.out]
  go_wp2_with fail
  refine (C2.out w2 HB2.out ma ml mc (plainT ss) HT2.out).mono ?_
  rintro e w3 ⟨⟨u2, rfl, hv2⟩, hb⟩
  obtain rfl := plain_told HR.out hv2
  rw [HR.out]
  unfold zeroF
  obtain ⟨w4, hw4⟩ : ∃ w4, w4 = w3.alloc (.cells #[.bool false, .int .i64 0, .slice none 0 0, .int .i64 0, .slice none 0 0] 38) := ⟨_, rfl⟩
  have B4 : Below w3.heap.size w3 w4 := by rw [hw4]; exact bl_new _
  have F4 : w4.heap[w3.heap.size]? = some (.cells #[.bool false, .int .i64 0, .slice none 0 0, .int .i64 0, .slice none 0 0] 38 (0, 0)) := by rw [hw4]; exact World.alloc_heap_new _ _
  have R7 := row5 (five (.bool false) (.int .i64 0) (.slice none 0 0) (.int .i64 0) (.slice none 0 0)) (((bl_on hb B4).block _ (Array.getElem?_eq_some_iff.1 HF2.out).1).trans HF2.out)
  have R10 := row5 (five (.bool false) (.int .i64 0) (.slice none 0 0) (.int .i64 0) (.slice none 0 0)) F4
  have f0 := R7.cell (i := 0) (by omega)
  have g0 := R10.cell (i := 0) (by omega)
  simp only [five] at f0 g0
  have zf := R7.lt
  have zg := R10.lt
  have HW4 := hide hw4
  have HB4 := hide (bl_on HB2.out (bl_on hb B4))
  have HN4 := hide (HN2.out.below (bl_on hb B4))
  have HT4 := hide (HT2.out.below (bl_on hb B4))
  obtain ⟨B10, hB10⟩ : ∃ B10, B10 = w3.heap.size := ⟨_, rfl⟩
  have HHB2 := hide hB10
  rw [← hB10] at g0 zg
  clear hw4 B4 F4 R7 R10 hb hv2 HN2 HB2 HT2 HF2 hB10 n0 n1 zn
  obtain ⟨n0, n1⟩ := HN4.out.cells
  have zn := HN4.out.lt
  go_upto_region 8 with fail
  rw [← HW4.out, ← HHB2.out]
  go_wp2_with fail
  obtain ⟨k1, k2, k3⟩ := plain_run (L := L) mix HR.out
  have hMM : ordM zs ss (plainT ss) mix L = if runE zs ss L = 0 then runM ss L else [] := by
    split
    · exact k2 (by assumption)
    · exact k3 (by assumption)
  obtain ⟨M, hM⟩ : ∃ M, M = if runE zs ss L = 0 then runM ss L else [] := ⟨_, rfl⟩
  have HC3 := hide (fun (V : World) (hb : Below w.heap.size w V) (hT : TimesA V ma ml (plainT ss)) => C3.out V hb ma ml mc (plainT ss) hT)
  rw [k1, hMM, ← hM] at HC3
  rw [← hM] at C4
  obtain ⟨E, hE⟩ : ∃ E, E = runE zs ss L := ⟨_, rfl⟩
  rw [← hE] at HC3 C4
  have qE : (E == E) = true := by simp
  clear k1 k2 k3 hMM hM hE
  refine (C4.out w4 HB4.out).mono ?_
  rintro e w5 ⟨⟨A, n, c, rfl, hm⟩, hb⟩
  have HB5 := hide (bl_on HB4.out hb)
  have HN5 := hide (HN4.out.below hb)
  have HT5 := hide (HT4.out.below hb)
  have HM5 := hide hm
  have HML := hide hm.1
  clear hb n0 n1 zn hm f0 g0 zf zg
  obtain ⟨n0, n1⟩ := HN5.out.cells
  have zn := HN5.out.lt
  go_wp2_with fail
  refine (HC3.out w5 HB5.out HT5.out).mono ?_
  rintro e w6 ⟨⟨A', n', c', rfl, hm'⟩, hb⟩
  have hn' : n' = n := by rw [← hm'.1]; exact HML.out
  subst hn'
  have HB6 := hide (bl_on HB5.out hb)
  have HSM := hide (sameMem_any A c A' c' n' M w6 (HM5.out.below hb) hm')
  clear hb n0 n1 zn hm'
  go_wp2_with fail
  refine HSM.out.mono ?_
  rintro e w7 ⟨rfl, nn, rfl⟩
  go_wp2_with fail
  go_ret
  exact ⟨rfl, bl_on HB6.out (below_drewN _ nn)⟩
end Go.Proofs.Ytoidgdbgpbcebaa.V
