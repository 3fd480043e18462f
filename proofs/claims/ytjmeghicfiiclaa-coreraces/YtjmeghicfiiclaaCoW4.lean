/-
  What is wrong with code: core.Wrong.
-/
import Derived.Test.YtjmeghicfiiclaaCoW3
namespace Go.Proofs.Ytjmeghicfiiclaa.V
open Go Go.RowKit
set_option linter.unusedVariables false

theorem inssE_ok {pad mem : Int} {e : Bool} : ∀ {l : List In}, inssE pad mem e l = 0 → ∀ x ∈ l, insE pad mem e x = 0
  | y :: l, h, x, hx => by
    unfold inssE at h
    by_cases h1 : insE pad mem e y ≠ 0
    · rw [if_pos h1] at h; exact absurd h h1
    · rw [if_neg h1] at h
      rcases List.mem_cons.1 hx with rfl | hx
      · simpa using h1
      · exact inssE_ok h x hx
theorem insE_sem {pad mem : Int} {e : Bool} {x : In} (h : insE pad mem e x = 0) (hd : x.d = 3 ∨ x.d = 4) : 0 ≤ x.a ∧ x.a < 16 := by
  unfold insE at h
  by_cases h1 : hasV e x.d = false
  · rw [if_pos h1] at h; omega
  rw [if_neg h1, if_pos hd] at h
  by_cases h2 : x.a < 0 ∨ 16 ≤ x.a
  · rw [if_pos h2] at h; omega
  · omega
theorem inssE_take {pad mem : Int} {e : Bool} : ∀ (l : List In) (k : Nat), k < l.length → inssE pad mem e (l.take k) = 0 → insE pad mem e (l[k]?.getD inD) = 0 → inssE pad mem e (l.take (k + 1)) = 0
  | [], k, h, _, _ => by simp at h
  | y :: l, 0, h, _, h3 => by
    simp only [List.getElem?_cons_zero, Option.getD_some] at h3
    simp [inssE, h3]
  | y :: l, k + 1, h, h2, h3 => by
    simp only [List.take_succ_cons, inssE] at h2 ⊢
    by_cases h1 : insE pad mem e y ≠ 0
    · rw [if_pos h1] at h2; exact absurd h2 h1
    · rw [if_neg h1] at h2 ⊢
      exact inssE_take l k (by simpa using h) h2 (by simpa using h3)
theorem inssE_at {pad mem : Int} {e : Bool} : ∀ (l : List In) (k : Nat), k < l.length → inssE pad mem e (l.take k) = 0 → insE pad mem e (l[k]?.getD inD) ≠ 0 → inssE pad mem e l = insE pad mem e (l[k]?.getD inD)
  | [], k, h, _, _ => by simp at h
  | y :: l, 0, h, _, h3 => by
    simp only [List.getElem?_cons_zero, Option.getD_some] at h3 ⊢
    rw [inssE, if_pos h3]
  | y :: l, k + 1, h, h2, h3 => by
    simp only [List.take_succ_cons, inssE] at h2
    by_cases h1 : insE pad mem e y ≠ 0
    · rw [if_pos h1] at h2; exact absurd h2 h1
    · rw [if_neg h1] at h2
      rw [inssE, if_neg h1]
      have := inssE_at l k (by simpa using h) h2 (by simpa using h3)
      simpa using this
theorem codeE_rest {pad mem : Int} {mv mk : List In} (h1 : ¬ (pad < 0 ∨ 4096 < pad ∨ mem < 0 ∨ 1048576 < mem)) (h2 : ¬ (262144 < mv.length ∨ 262144 < mk.length)) : codeE pad mem mv mk = if inssE pad mem true mv ≠ 0 then inssE pad mem true mv else if inssE pad mem false mk ≠ 0 then inssE pad mem false mk else if clashV mv mk = true then 11 else 0 := by
  unfold codeE
  rw [if_neg h1, if_neg h2]
set_option maxRecDepth 100000 in
set_option maxHeartbeats 4000000 in
theorem coWrong_any (c : CV) (mv mk : List In) (w : World) (hm : Inss w c.ma c.ml mv) (hk : Inss w c.ka c.kl mk) :
    Calls Try.prog 6 #[c.v] w fun r w' => r = .returned (.int .i64 (codeE c.pad c.mem mv mk)) ∧ Below w.heap.size w w' := by
  obtain ⟨W, hW⟩ : ∃ W, W = w.alloc (.cells #[.int .i64 c.pad, .int .i64 c.mem, .slice c.ma c.ml c.mc, .slice c.ka c.kl c.kc] 24) := ⟨_, rfl⟩
  have hb : Below w.heap.size w W := by rw [hW]; exact bl_new _
  have hC : CBlk W w.heap.size c := by rw [hW]; exact CBlk.new w c
  have HEN := hide (fun V => engines_any c V)
  have HWI0 : Hid (∀ (x : In) (V : World), Calls Try.prog 12 #[c.v, .int .i64 0, x.v6] V fun r w' => r = .returned (.int .i64 (insE c.pad c.mem true x)) ∧ Below V.heap.size V w') := fun x V => wrongIns_any c true x V
  have HWI1 : Hid (∀ (x : In) (V : World), Calls Try.prog 12 #[c.v, .int .i64 1, x.v6] V fun r w' => r = .returned (.int .i64 (insE c.pad c.mem false x)) ∧ Below V.heap.size V w') := fun x V => wrongIns_any c false x V
  have HCL := hide (fun (V : World) (hV : Below w.heap.size w V) => clashes_any c mv mk V (hm.below hV) (hk.below hV))
  obtain ⟨⟨c0, c1, c2, c3⟩, zc⟩ := hC.cells
  have HB := hide hb
  have HC := hide hC
  have HW := hide hW
  have HM := hide hm
  have HK := hide hk
  obtain ⟨R, hR⟩ : ∃ R, R = codeE c.pad c.mem mv mk := ⟨_, rfl⟩
  rw [← hR]
  have HR := hide hR
  have hml := hm.2.1
  have hkl := hk.2.1
  clear hb hC hW hm hk hR
  obtain ⟨pad, mem, ma, ml, mc, ka, kl, kc⟩ := c
  unfold CV.v at HEN HWI0 HWI1 HCL ⊢
  unfold In.v6 at HWI0 HWI1
  simp only at *
  go_enter Try.func6, Try.ntmps6
  go_upto_region 1 with fail
  rw [← HW.out]
  by_cases p1 : pad < 0
  · have hr : R = 4 := by rw [HR.out, codeE, if_pos (.inl p1)]
    go_wp2_with fail
    go_ret
    exact ⟨by first | rfl | (rw [hr]; rfl), HB.out⟩
  by_cases p2 : 4096 < pad
  · have hr : R = 4 := by rw [HR.out, codeE, if_pos (.inr (.inl p2))]
    go_wp2_with fail
    go_ret
    exact ⟨by first | rfl | (rw [hr]; rfl), HB.out⟩
  by_cases p3 : mem < 0
  · have hr : R = 4 := by rw [HR.out, codeE, if_pos (.inr (.inr (.inl p3)))]
    go_wp2_with fail
    go_ret
    exact ⟨by first | rfl | (rw [hr]; rfl), HB.out⟩
  by_cases p4 : 1048576 < mem
  · have hr : R = 4 := by rw [HR.out, codeE, if_pos (.inr (.inr (.inr p4)))]
    go_wp2_with fail
    go_ret
    exact ⟨by first | rfl | (rw [hr]; rfl), HB.out⟩
  have HP := hide (show ¬ (pad < 0 ∨ 4096 < pad ∨ mem < 0 ∨ 1048576 < mem) by omega)
  have HL := hide (And.intro HM.out.1 HK.out.1)
  by_cases p5 : 262144 < ml
  · have hr : R = 2 := by rw [HR.out, codeE, if_neg HP.out, if_pos (.inl (by rw [HL.out.1]; exact p5))]
    go_wp2_with fail
    go_ret
    exact ⟨by first | rfl | (rw [hr]; rfl), HB.out⟩
  by_cases p6 : 262144 < kl
  · have hr : R = 2 := by rw [HR.out, codeE, if_neg HP.out, if_pos (.inr (by rw [HL.out.2]; exact p6))]
    go_wp2_with fail
    go_ret
    exact ⟨by first | rfl | (rw [hr]; rfl), HB.out⟩
  have hr0 : R = if inssE pad mem true mv ≠ 0 then inssE pad mem true mv else if inssE pad mem false mk ≠ 0 then inssE pad mem false mk else if clashV mv mk = true then 11 else 0 := by
    rw [HR.out, codeE_rest HP.out (by rw [HL.out.1, HL.out.2]; omega)]
  have HR0 := hide hr0
  clear hr0 HR HP
  go_wp2_with fail
  refine (HEN.out W).mono ?_
  rintro r w2 ⟨rfl, hb2⟩
  have HB2 := hide (bl_on HB.out hb2)
  have HC2 := hide (HC.out.below hb2)
  clear hb2 c0 c1 c2 c3 zc HB HC HW HEN p1 p2 p3 p4
  go_wp2_with fail
  go_loopw [38] (fun v38 wr => ∃ k : Int, (k = 0 ∨ k = 1 ∨ k = 2) ∧ v38 = .int .i64 k ∧ (1 ≤ k → inssE pad mem true mv = 0) ∧ (2 ≤ k → inssE pad mem false mk = 0) ∧ CBlk wr w.heap.size ⟨pad, mem, ma, ml, mc, ka, kl, kc⟩ ∧ Below w.heap.size w wr) (fun v38 _ => (2 - intOf v38).toNat)
  case atStart => exact ⟨0, by omega, rfl, fun h => by omega, fun h => by omega, HC2.out, HB2.out⟩
  case round =>
    clear HC2 HB2
    obtain ⟨k, hk2, rfl, hk0, hk1, hc, hbr⟩ := hrel
    have HK0 := hide hk0
    have HK1 := hide hk1
    have HCR := hide hc
    have HBR := hide hbr
    clear hk0 hk1 hc hbr
    obtain rfl | rfl | rfl := hk2
    · have hix := idx2_0 (.slice ma ml mc) (.slice ka kl kc)
      go_wp2_with fail
      go_loopw [44] (fun v44 wv => ∃ j : Nat, j ≤ ml ∧ v44 = .int .i64 j ∧ inssE pad mem true (mv.take j) = 0 ∧ CBlk wv w.heap.size ⟨pad, mem, ma, ml, mc, ka, kl, kc⟩ ∧ Below w.heap.size w wv) (fun v44 _ => ml - (intOf v44).toNat)
      case atStart => exact ⟨0, by omega, rfl, rfl, HCR.out, HBR.out⟩
      case round =>
        clear hix
        obtain ⟨j, hj, rfl, hin0, hc, hbv⟩ := hrel
        by_cases hjl : j < ml
        · have hjz : (j : Int) < (ml : Int) := by omega
          obtain ⟨b, off, rfl, hin⟩ := HM.out.2.2.resolve_left (by omega)
          obtain ⟨k0, k1, k2, k3, k4, k5⟩ := (hin j hjl).below hbv
          obtain ⟨x, hx⟩ : ∃ x, x = mv[j]?.getD inD := ⟨_, rfl⟩
          have hjm : j < mv.length := by have := HM.out.1; omega
          have hst := inssE_take (pad := pad) (mem := mem) (e := true) mv j hjm hin0
          have hse := inssE_at (pad := pad) (mem := mem) (e := true) mv j hjm hin0
          rw [← hx] at k0 k1 k2 k3 k4 k5
          rw [← hx] at hst hse
          obtain ⟨V, hV⟩ : ∃ V, V = wr.alloc (.cells #[.int .i64 x.d, .int .i64 x.a, .int .i64 x.b, .int .i64 x.c, .int .i64 x.n, .int .i64 x.v] 36) := ⟨_, rfl⟩
          have hbV : Below wr.heap.size wr V := by rw [hV]; exact bl_new _
          have hI : InBlk V wr.heap.size x := by rw [hV]; exact InBlk.new _ _
          obtain ⟨g9, hg9⟩ : ∃ g9, g9 = wr.heap.size := ⟨_, rfl⟩
          rw [← hg9] at hI
          have zk := lt_of_cell k0
          simp only at zk
          have HV := hide hV
          have H9 := hide hg9
          have HI := hide hI
          have HCV := hide (hc.below hbV)
          have HBV := hide (bl_on hbv hbV)
          have HST := hide hst
          have HSE := hide hse
          clear hin hbV hI hV hg9 hst hse hbv hc hx hin0
          go_upto_region 11 with fail
          rw [← HV.out, ← H9.out]
          clear k0 k1 k2 k3 k4 k5 zk
          obtain ⟨⟨i0, i1, i2, i3, i4, i5⟩, zi⟩ := HI.out.cells
          obtain ⟨⟨c0, c1, c2, c3⟩, zc⟩ := HCV.out.cells
          simp only at c0 c1 c2 c3
          go_wp2_with fail
          refine (HWI0.out x V).mono ?_
          rintro r w3 ⟨rfl, hb3⟩
          have HC3 := hide (HCV.out.below hb3)
          have HB3 := hide (bl_on HBV.out hb3)
          clear hb3 i0 i1 i2 i3 i4 i5 zi c0 c1 c2 c3 zc
          by_cases h0 : insE pad mem true x = 0
          · have HN := hide (HST.out h0)
            rw [h0]
            clear h0
            go_wp2_with fail
            go_roundw
            case rel => exact ⟨j + 1, by omega, by go_num, HN.out, HC3.out, HB3.out⟩
            case measure => simp [intOf]; omega
          · have hr : R = insE pad mem true x := by
              have h1 := HSE.out h0
              rw [HR0.out, h1, if_pos h0]
            have h0b : (insE pad mem true x != 0) = true := by simpa using h0
            obtain ⟨E, hE⟩ : ∃ E, E = insE pad mem true x := ⟨_, rfl⟩
            rw [← hE] at h0b hr ⊢
            clear h0 hE
            go_wp2_with fail
            go_ret
            exact ⟨by first | rfl | (rw [hr]; rfl), HB3.out⟩
        · have hjz : ¬ (j : Int) < (ml : Int) := by omega
          obtain rfl : j = ml := by omega
          have e1 : mv.take j = mv := List.take_of_length_le (by have := HM.out.1; omega)
          rw [e1] at hin0
          have HI3 := hide hin0
          have HC3 := hide hc
          have HB3 := hide hbv
          clear hin0 hc hbv e1
          go_wp2_with fail
          go_roundw
          case rel => exact ⟨1, by omega, rfl, fun _ => HI3.out, fun h => by omega, HC3.out, HB3.out⟩
          case measure => simp [intOf]
    · have hix := idx2_1 (.slice ma ml mc) (.slice ka kl kc)
      go_wp2_with fail
      go_loopw [44] (fun v44 wv => ∃ j : Nat, j ≤ kl ∧ v44 = .int .i64 j ∧ inssE pad mem false (mk.take j) = 0 ∧ CBlk wv w.heap.size ⟨pad, mem, ma, ml, mc, ka, kl, kc⟩ ∧ Below w.heap.size w wv) (fun v44 _ => kl - (intOf v44).toNat)
      case atStart => exact ⟨0, by omega, rfl, rfl, HCR.out, HBR.out⟩
      case round =>
        clear hix
        obtain ⟨j, hj, rfl, hin0, hc, hbv⟩ := hrel
        by_cases hjl : j < kl
        · have hjz : (j : Int) < (kl : Int) := by omega
          obtain ⟨b, off, rfl, hin⟩ := HK.out.2.2.resolve_left (by omega)
          obtain ⟨k0, k1, k2, k3, k4, k5⟩ := (hin j hjl).below hbv
          obtain ⟨x, hx⟩ : ∃ x, x = mk[j]?.getD inD := ⟨_, rfl⟩
          have hjm : j < mk.length := by have := HK.out.1; omega
          have hst := inssE_take (pad := pad) (mem := mem) (e := false) mk j hjm hin0
          have hse := inssE_at (pad := pad) (mem := mem) (e := false) mk j hjm hin0
          rw [← hx] at k0 k1 k2 k3 k4 k5
          rw [← hx] at hst hse
          obtain ⟨V, hV⟩ : ∃ V, V = wr.alloc (.cells #[.int .i64 x.d, .int .i64 x.a, .int .i64 x.b, .int .i64 x.c, .int .i64 x.n, .int .i64 x.v] 36) := ⟨_, rfl⟩
          have hbV : Below wr.heap.size wr V := by rw [hV]; exact bl_new _
          have hI : InBlk V wr.heap.size x := by rw [hV]; exact InBlk.new _ _
          obtain ⟨g9, hg9⟩ : ∃ g9, g9 = wr.heap.size := ⟨_, rfl⟩
          rw [← hg9] at hI
          have zk := lt_of_cell k0
          simp only at zk
          have HV := hide hV
          have H9 := hide hg9
          have HI := hide hI
          have HCV := hide (hc.below hbV)
          have HBV := hide (bl_on hbv hbV)
          have HST := hide hst
          have HSE := hide hse
          clear hin hbV hI hV hg9 hst hse hbv hc hx hin0
          go_upto_region 11 with fail
          rw [← HV.out, ← H9.out]
          clear k0 k1 k2 k3 k4 k5 zk
          obtain ⟨⟨i0, i1, i2, i3, i4, i5⟩, zi⟩ := HI.out.cells
          obtain ⟨⟨c0, c1, c2, c3⟩, zc⟩ := HCV.out.cells
          simp only at c0 c1 c2 c3
          go_wp2_with fail
          refine (HWI1.out x V).mono ?_
          rintro r w3 ⟨rfl, hb3⟩
          have HC3 := hide (HCV.out.below hb3)
          have HB3 := hide (bl_on HBV.out hb3)
          clear hb3 i0 i1 i2 i3 i4 i5 zi c0 c1 c2 c3 zc
          by_cases h0 : insE pad mem false x = 0
          · have HN := hide (HST.out h0)
            rw [h0]
            clear h0
            go_wp2_with fail
            go_roundw
            case rel => exact ⟨j + 1, by omega, by go_num, HN.out, HC3.out, HB3.out⟩
            case measure => simp [intOf]; omega
          · have hr : R = insE pad mem false x := by
              have h1 := HSE.out h0
              rw [HR0.out, HK0.out (by omega), if_neg (by simp), h1, if_pos h0]
            have h0b : (insE pad mem false x != 0) = true := by simpa using h0
            obtain ⟨E, hE⟩ : ∃ E, E = insE pad mem false x := ⟨_, rfl⟩
            rw [← hE] at h0b hr ⊢
            clear h0 hE
            go_wp2_with fail
            go_ret
            exact ⟨by first | rfl | (rw [hr]; rfl), HB3.out⟩
        · have hjz : ¬ (j : Int) < (kl : Int) := by omega
          obtain rfl : j = kl := by omega
          have e1 : mk.take j = mk := List.take_of_length_le (by have := HK.out.1; omega)
          rw [e1] at hin0
          have HI3 := hide hin0
          have HC3 := hide hc
          have HB3 := hide hbv
          clear hin0 hc hbv e1
          go_wp2_with fail
          go_roundw
          case rel => exact ⟨2, by omega, rfl, fun _ => HK0.out (by omega), fun _ => HI3.out, HC3.out, HB3.out⟩
          case measure => simp [intOf]
    · have h0 := HK0.out (by omega)
      have h1 := HK1.out (by omega)
      have hr0 : R = if clashV mv mk = true then 11 else 0 := by rw [HR0.out, h0, if_neg (by simp), h1, if_neg (by simp)]
      obtain ⟨⟨c0, c1, c2, c3⟩, zc⟩ := HCR.out.cells
      simp only at c0 c1 c2 c3
      have HCC := hide (HCL.out wr HBR.out (fun x hx hd => insE_sem (inssE_ok h0 x hx) hd) (fun x hx hd => insE_sem (inssE_ok h1 x hx) hd))
      clear h0 h1
      have HR1 := hide hr0
      clear hr0
      go_wp2_with fail
      refine HCC.out.mono ?_
      rintro r w3 ⟨rfl, hb3⟩
      have HB3 := hide (bl_on HBR.out hb3)
      clear hb3 c0 c1 c2 c3 zc
      cases hcl : clashV mv mk
      · have hr : R = 0 := by rw [HR1.out, hcl]; rfl
        go_wp2_with fail
        go_ret
        exact ⟨by first | rfl | (rw [hr]; rfl), HB3.out⟩
      · have hr : R = 11 := by rw [HR1.out, hcl]; rfl
        go_wp2_with fail
        go_ret
        exact ⟨by first | rfl | (rw [hr]; rfl), HB3.out⟩
end Go.Proofs.Ytjmeghicfiiclaa.V
