/-
  CoreRaces: the law.
-/
import Derived.Test.YtjmeghicfiiclaaCoRd4
namespace Go.Proofs.Ytjmeghicfiiclaa.V
open Go Go.RowKit
set_option linter.unusedVariables false

set_option maxRecDepth 100000 in
set_option maxHeartbeats 4000000 in
theorem coreRaces_walk (c : CV) (mv mk : List In) (w : World) (hm : Inss w c.ma c.ml mv) (hk : Inss w c.ka c.kl mk) (hcap : c.kl ≤ c.kc) :
    Calls Try.prog 3 #[c.v] w fun e w' => e = .returned (.bool true) ∧ Below w.heap.size w w' := by
  obtain ⟨W, hW⟩ : ∃ W, W = w.alloc (.cells #[.int .i64 c.pad, .int .i64 c.mem, .slice c.ma c.ml c.mc, .slice c.ka c.kl c.kc] 24) := ⟨_, rfl⟩
  have hb : Below w.heap.size w W := by rw [hW]; exact bl_new _
  have hC : CBlk W w.heap.size c := by rw [hW]; exact CBlk.new w c
  have HP := hide (fun (V : World) (hV : Below w.heap.size w V) => coRaces_any c mv mk V (hm.below hV) (hk.below hV) hcap)
  have HD := hide (fun (V : World) (hV : Below w.heap.size w V) => rRaces_any c mv mk V (hm.below hV) (hk.below hV))
  have HW := hide hW
  have HB := hide hb
  have HC := hide hC
  obtain ⟨⟨c0, c1, c2, c3⟩, zc⟩ := hC.cells
  clear hW hb hC hm hk hcap
  obtain ⟨pad, mem, ma, ml, mc, ka, kl, kc⟩ := c
  unfold CV.v at HP HD ⊢
  simp only at *
  go_enter Try.func3, Try.ntmps3
  go_upto_region 1 with fail
  rw [← HW.out]
  go_wp2_with fail
  refine (HP.out W HB.out).mono ?_
  rintro r w3 ⟨⟨an, i, j, e, rfl, h1⟩, hb3⟩
  obtain ⟨V, hV⟩ : ∃ V, V = w3.alloc (.cells #[.bool an, .int .i64 (i : Int), .int .i64 (j : Int)] 26) := ⟨_, rfl⟩
  have hbV : Below w3.heap.size w3 V := by rw [hV]; exact bl_new _
  have h3 : RcBlk V w3.heap.size an i j := by rw [hV]; exact World.alloc_heap_new _ _
  obtain ⟨G, hG⟩ : ∃ G, G = w3.heap.size := ⟨_, rfl⟩
  rw [← hG] at h3
  have H1 := hide h1
  have H3 := hide h3
  have HV := hide hV
  have HG := hide hG
  have HBV := hide (bl_on (bl_on HB.out hb3) hbV)
  have HCV := hide ((HC.out.below hb3).below hbV)
  clear h1 h3 hV hG hb3 hbV c0 c1 c2 c3 zc HC HB HW
  go_upto_region 2 with fail
  rw [← HV.out, ← HG.out]
  obtain ⟨⟨c0, c1, c2, c3⟩, zc⟩ := HCV.out.cells
  simp only at c0 c1 c2 c3
  clear HV HG
  go_wp2_with fail
  refine (HD.out V HBV.out).mono ?_
  rintro r w4 ⟨⟨an', i', j', e', rfl, h2⟩, hb4⟩
  obtain ⟨rfl, rfl, rfl, rfl⟩ := H1.out.one h2
  obtain ⟨V2, hV2⟩ : ∃ V2, V2 = w4.alloc (.cells #[.bool an, .int .i64 (i : Int), .int .i64 (j : Int)] 26) := ⟨_, rfl⟩
  have hbV : Below w4.heap.size w4 V2 := by rw [hV2]; exact bl_new _
  have h3 : RcBlk V2 w4.heap.size an i j := by rw [hV2]; exact World.alloc_heap_new _ _
  obtain ⟨G2, hG⟩ : ∃ G2, G2 = w4.heap.size := ⟨_, rfl⟩
  rw [← hG] at h3
  have h5 : RcBlk V2 G an i j := (hbV.block _ (Nat.lt_of_lt_of_le (Array.getElem?_eq_some_iff.1 H3.out).1 hb4.size)).trans ((hb4.block _ (Array.getElem?_eq_some_iff.1 H3.out).1).trans H3.out)
  obtain ⟨⟨p0, p1, p2⟩, zp⟩ := h3.cells
  obtain ⟨⟨q0, q1, q2⟩, zq⟩ := h5.cells
  have HV2 := hide hV2
  have HG2 := hide hG
  have HB2 := hide (bl_on (bl_on HBV.out hb4) hbV)
  clear h2 hb4 hV2 hbV hG h3 h5 c0 c1 c2 c3 zc
  go_upto_region 3 with fail
  rw [← HV2.out, ← HG2.out]
  clear HV2 HG2
  go_wp2_with fail
  go_ret
  exact ⟨rfl, HB2.out⟩
end Go.Proofs.Ytjmeghicfiiclaa.V
