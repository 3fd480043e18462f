/-
  CoreCalm: the law.
-/
import Derived.Test.YtoabffmiedbkkaaGreatPK30
import Derived.Test.YtoabffmiedbkkaaGreatPK14
import Derived.Test.YtoabffmiedbkkaaGreatPK37
namespace Go.Proofs.YtoabffmiedbkkaaGreat.V
set_option maxRecDepth 20000
open Go Go.RowKit
set_option linter.unusedVariables false
set_option linter.unusedSimpArgs false

def aliveIn : In := ⟨1, 0, 0, 0, 1, 0⟩
theorem alive_E : runE 1 1 [aliveIn] [] [] [7] = 0 := by decide +kernel
theorem alive_L : runL 1 1 [aliveIn] [] [] [7] = [7] := by decide +kernel
set_option maxRecDepth 20000 in
set_option maxHeartbeats 4000000 in
theorem alive13 (w : World) : Calls Tryz.prog 10 #[] w fun e w' => e = .returned (.bool true) ∧ Below w.heap.size w w' := by
  obtain ⟨V, hV⟩ : ∃ V, V = (w.alloc (.cells #[.int .i64 1, .int .i64 0, .int .i64 0, .int .i64 0, .int .i64 1, .int .i64 0] 50)).alloc (.cells #[.int .i64 7] 2) := ⟨_, rfl⟩
  have hb : Below w.heap.size w V := by rw [hV]; exact bl_alloc (bl_new _)
  have i1 : Inss V (some ⟨w.heap.size, 0, none⟩) 1 [aliveIn] := by
    refine ⟨rfl, by omega, .inr ⟨w.heap.size, 0, rfl, fun j hj => ?_⟩⟩
    obtain rfl : j = 0 := by omega
    have h8 := ((bl_new (w := w.alloc (.cells #[.int .i64 1, .int .i64 0, .int .i64 0, .int .i64 0, .int .i64 1, .int .i64 0] 50)) (.cells #[.int .i64 7] 2)).block w.heap.size (by simp)).trans (World.alloc_heap_new _ _)
    rw [← hV] at h8
    unfold InAt
    simp only [World.cell?, h8]
    exact ⟨rfl, rfl, rfl, rfl, rfl, rfl⟩
  have i2 : Ints V (some ⟨w.heap.size + 1, 0, none⟩) 1 [7] := by
    refine ⟨rfl, by omega, fun y hy => by rw [List.mem_singleton.1 hy]; omega, .inr ⟨_, _, rfl, fun j hj => ?_⟩⟩
    obtain rfl : j = 0 := by omega
    have h8 := World.alloc_heap_new (w.alloc (.cells #[.int .i64 1, .int .i64 0, .int .i64 0, .int .i64 0, .int .i64 1, .int .i64 0] 50)) (.cells #[.int .i64 7] 2)
    rw [show (w.alloc (.cells #[.int .i64 1, .int .i64 0, .int .i64 0, .int .i64 0, .int .i64 1, .int .i64 0] 50)).heap.size = w.heap.size + 1 by simp, ← hV] at h8
    simp only [World.cell?, h8]
    rfl
  have hr := run_any ⟨1, 1, some ⟨w.heap.size, 0, none⟩, 1, 1, none, 0, 0⟩ [aliveIn] [] (some ⟨w.heap.size + 1, 0, none⟩) 1 1 [7] none 0 0 [] V i1 ⟨rfl, Nat.zero_le _, .inl rfl⟩ (fun k hk => by
    obtain rfl : k = 0 := by simpa using hk
    show bd64 0
    unfold bd64
    omega) (fun k hk => by simp at hk) i2 ⟨rfl, by omega, fun _ h => (by cases h), .inl rfl⟩ (by omega)
  unfold CV.v at hr
  simp only [alive_E, alive_L] at hr
  have HR := hide hr
  have HB := hide hb
  have HV := hide hV
  clear hr hb hV i1 i2
  go_enter Tryz.func10, Tryz.ntmps10
  go_upto_region 2 with (go_at_call 5; rw [← HV.out]; refine HR.out.mono ?_; rintro e w2 ⟨⟨a, n, cc, rfl, hI, hcc⟩, hb2⟩; have HI := hide hI; have HB2 := hide (bl_on HB.out hb2); clear hI hb2)
  obtain rfl : n = 1 := by have := HI.out.1; simpa using this.symm
  obtain ⟨b, o, rfl, hbl, hc⟩ := HI.out.at (by omega)
  have c0 := hc 0 (by omega)
  simp at c0
  clear hc
  go_wp2_with fail
  go_ret
  exact ⟨rfl, HB2.out⟩
set_option maxRecDepth 100000 in
set_option maxHeartbeats 8000000 in
theorem coreCalm_walk (c : CV) (mv mk : List In) (xa : Option Addr) (xl xc : Nat) (ms : List Int) (ya : Option Addr) (yl yc : Nat) (ps : List Int) (za : Option Addr) (zl zc : Nat) (qs : List Int) (w : World) (hm : Inss w c.ma c.ml mv) (hk : Inss w c.ka c.kl mk) (hcap : c.kl ≤ c.kc) (hvm : VOk mv) (hvk : VOk mk) (hx : Ints w xa xl ms) (hy : Ints w ya yl ps) (hyb : yl * 8 ≤ 140737488355328) (hz : Ints w za zl qs) (hzb : zl * 8 ≤ 140737488355328) :
    Calls Tryz.prog 4 #[c.v, .slice xa xl xc, .slice ya yl yc, .slice za zl zc] w fun e w' => e = .returned (.bool true) ∧ Below w.heap.size w w' := by
  obtain ⟨W, hW⟩ : ∃ W, W = w.alloc (.cells #[.int .i64 c.pad, .int .i64 c.mem, .slice c.ma c.ml c.mc, .slice c.ka c.kl c.kc] 24) := ⟨_, rfl⟩
  obtain ⟨cb, hcb⟩ : ∃ cb, cb = w.heap.size := ⟨_, rfl⟩
  have hb : Below w.heap.size w W := by rw [hW]; exact bl_new _
  have hC : CBlk W cb c := by rw [hW, hcb]; exact CBlk.new w c
  have HRC := hide (fun (V : World) (hV : Below w.heap.size w V) => coRaces_any c mv mk V (hm.below hV) (hk.below hV) hcap)
  have HR1 := hide (fun (V : World) (hV : Below w.heap.size w V) => run_any c mv mk xa xl xc ms ya yl yc ps V (hm.below hV) (hk.below hV) hvm hvk (hx.below hV) (hy.below hV) hyb)
  have HR2 := hide (fun (V : World) (hV : Below w.heap.size w V) => run_any c mv mk xa xl xc ms za zl zc qs V (hm.below hV) (hk.below hV) hvm hvk (hx.below hV) (hz.below hV) hzb)
  have HW := hide hW
  have HB := hide hb
  have HC := hide hC
  have HCB := hide hcb
  clear hW hb hC hcb hm hk hcap hvm hvk hx hy hyb hz hzb
  obtain ⟨pad, mem, ma, ml, mc, ka, kl, kc⟩ := c
  unfold CV.v at HRC HR1 HR2 ⊢
  simp only at *
  go_enter Tryz.func4, Tryz.ntmps4
  go_upto_region 1 with fail
  rw [← HW.out, ← HCB.out]
  go_upto_region 3 with (go_at_call 10; refine (alive13 _).mono ?_; rintro e w1 ⟨rfl, hb1⟩; have HB1 := hide (bl_on HB.out hb1); have HC1 := hide (HC.out.below hb1); clear hb1)
  obtain ⟨⟨c0, c1, c2, c3⟩, zc⟩ := HC1.out.cells
  simp only at c0 c1 c2 c3
  go_upto_region 4 with (go_at_call 11; refine (HRC.out w1 HB1.out).mono ?_; rintro e w2 ⟨⟨an, i, j, er, rfl, hrt⟩, hb2⟩; have HRT := hide hrt; have HB2 := hide (bl_on HB1.out hb2); have HC2 := hide (HC1.out.below hb2); clear hrt hb2 c0 c1 c2 c3 zc)
  obtain ⟨V, hV⟩ : ∃ V, V = w2.alloc (.cells #[.bool an, .int .i64 (i : Int), .int .i64 (j : Int)] 35) := ⟨_, rfl⟩
  obtain ⟨G, hG⟩ : ∃ G, G = w2.heap.size := ⟨_, rfl⟩
  have hbV : Below w2.heap.size w2 V := by rw [hV]; exact bl_new _
  have hRb : V.heap[G]? = some (.cells #[.bool an, .int .i64 (i : Int), .int .i64 (j : Int)] 35 (0, 0)) := by rw [hV, hG]; exact World.alloc_heap_new _ _
  have r0 : V.cell? ⟨G, 0, none⟩ = some (.bool an) := by simp only [World.cell?, hRb]; rfl
  have zG := lt_of_cell r0
  simp only at zG
  have HV := hide hV
  have HG := hide hG
  have HB3 := hide (bl_on HB2.out hbV)
  have HC3 := hide (HC2.out.below hbV)
  clear hV hG hbV hRb
  rw [← HV.out, ← HG.out]
  by_cases h0 : er = 0
  · subst h0
    cases an with
    | true =>
      go_wp2_with fail
      go_ret
      exact ⟨rfl, HB3.out⟩
    | false =>
      have hce : codeE pad mem mv mk = 0 := HRT.out.1.symm
      have hnr : ∀ i j, ¬ RaceAt mv mk i j := by
        rcases HRT.out.2 with ⟨h, _⟩ | ⟨_, h⟩
        · exact absurd rfl h
        · rcases h with ⟨h, _⟩ | ⟨_, _, _, h⟩
          · cases h
          · exact h
      have hcalm := calm hce hnr ps qs ms
      have eE : runE pad mem mv mk qs ms = runE pad mem mv mk ps ms := by unfold runE endS; rw [hcalm]
      have eL : runL pad mem mv mk qs ms = runL pad mem mv mk ps ms := by unfold runL; rw [eE, hcalm]
      have h2 := HR2.out
      simp only [eE, eL] at h2
      obtain ⟨RE, hRE⟩ : ∃ RE, RE = runE pad mem mv mk ps ms := ⟨_, rfl⟩
      obtain ⟨RL, hRL⟩ : ∃ RL, RL = runL pad mem mv mk ps ms := ⟨_, rfl⟩
      have h1 := HR1.out
      rw [← hRE, ← hRL] at h1
      rw [← hRE, ← hRL] at h2
      have H1 := hide h1
      have H2 := hide h2
      clear h1 h2 eE eL hcalm hnr hce hRE hRL HR1 HR2
      obtain ⟨⟨c0, c1, c2, c3⟩, zc⟩ := HC3.out.cells
      simp only at c0 c1 c2 c3
      go_upto_region 7 with (go_at_call 5; refine (H1.out V HB3.out).mono ?_; rintro e w4 ⟨⟨a4, n4, k4, rfl, hI4, hk4⟩, hb4⟩; have HI4 := hide hI4; have HB4 := hide (bl_on HB3.out hb4); have HC4 := hide (HC3.out.below hb4); clear hI4 hb4 c0 c1 c2 c3 zc)
      obtain ⟨⟨c0, c1, c2, c3⟩, zc⟩ := HC4.out.cells
      simp only at c0 c1 c2 c3
      go_upto_region 8 with (go_at_call 5; refine (H2.out w4 HB4.out).mono ?_; rintro e w5 ⟨⟨a5, n5, k5, rfl, hI5, hk5⟩, hb5⟩; have HI5 := hide hI5; have HI45 := hide (HI4.out.below hb5); have HB5 := hide (bl_on HB4.out hb5); clear hI5 hb5 c0 c1 c2 c3 zc)
      go_wp2_with (go_at_call 7; refine (sameW13 a4 n4 k4 a5 n5 k5 RL w5 HI45.out hk4 HI5.out hk5).mono ?_; rintro e w6 ⟨rfl, hb6⟩; have HB6 := hide (bl_on HB5.out hb6); clear hb6)
      go_ret
      exact ⟨rfl, HB6.out⟩
  · have h0b : (er != 0) = true := by simpa using h0
    clear h0
    go_wp2_with fail
    go_ret
    exact ⟨rfl, HB3.out⟩
end Go.Proofs.YtoabffmiedbkkaaGreat.V
