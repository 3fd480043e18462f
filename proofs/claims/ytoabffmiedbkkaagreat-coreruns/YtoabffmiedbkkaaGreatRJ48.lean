/-
  The document: what is wrong with code.
-/
import Derived.Test.YtoabffmiedbkkaaGreatRJ47
namespace Go.Proofs.YtoabffmiedbkkaaGreat.V
set_option maxRecDepth 20000
open Go Go.RowKit
set_option linter.unusedVariables false

set_option maxRecDepth 100000 in
set_option maxHeartbeats 8000000 in
theorem rCoWrong_any (c : CV) (mv mk : List In) (w : World) (hm : Inss w c.ma c.ml mv) (hk : Inss w c.ka c.kl mk) :
    Calls Tryz.prog 9 #[c.v] w fun r w' => r = .returned (.int .i64 (codeE c.pad c.mem mv mk)) ∧ Below w.heap.size w w' := by
  obtain ⟨W, hW⟩ : ∃ W, W = w.alloc (.cells #[.int .i64 c.pad, .int .i64 c.mem, .slice c.ma c.ml c.mc, .slice c.ka c.kl c.kc] 24) := ⟨_, rfl⟩
  have hb : Below w.heap.size w W := by rw [hW]; exact bl_new _
  have hC : CBlk W w.heap.size c := by rw [hW]; exact CBlk.new w c
  have HWI0 : Hid (∀ (x : In) (V : World), Calls Tryz.prog 22 #[c.v, x.v6, .bool true] V fun r w' => r = .returned (.int .i64 (insE c.pad c.mem true x)) ∧ Below V.heap.size V w') := fun x V => rIns_any c true x V
  have HWI1 : Hid (∀ (x : In) (V : World), Calls Tryz.prog 22 #[c.v, x.v6, .bool false] V fun r w' => r = .returned (.int .i64 (insE c.pad c.mem false x)) ∧ Below V.heap.size V w') := fun x V => rIns_any c false x V
  have HU0 := hide (fun (d s : Int) (V : World) (hV : Below w.heap.size w V) => uses_any c.ma c.ml c.mc mv d s V (hm.below hV))
  have HU1 := hide (fun (d s : Int) (V : World) (hV : Below w.heap.size w V) => uses_any c.ka c.kl c.kc mk d s V (hk.below hV))
  obtain ⟨⟨c0, c1, c2, c3⟩, zc⟩ := hC.cells
  have HB := hide hb
  have HC := hide hC
  have HW := hide hW
  have HM := hide hm
  have HK := hide hk
  obtain ⟨R, hR⟩ : ∃ R, R = codeE c.pad c.mem mv mk := ⟨_, rfl⟩
  rw [← hR]
  have HR := hide hR
  have hml := hm.2.1
  have hkl := hk.2.1
  clear hb hC hW hm hk hR
  obtain ⟨pad, mem, ma, ml, mc, ka, kl, kc⟩ := c
  unfold CV.v at HWI0 HWI1 ⊢
  unfold In.v6 at HWI0 HWI1
  simp only at *
  go_enter Tryz.func9, Tryz.ntmps9
  go_upto_region 1 with fail
  rw [← HW.out]
  by_cases p1 : pad < 0
  · have hr : R = 4 := by rw [HR.out, codeE, if_pos (.inl p1)]
    go_wp2_with fail
    go_ret
    exact ⟨by first | rfl | (rw [hr]; rfl), HB.out⟩
  by_cases p2 : 4096 < pad
  · have hr : R = 4 := by rw [HR.out, codeE, if_pos (.inr (.inl p2))]
    go_wp2_with fail
    go_ret
    exact ⟨by first | rfl | (rw [hr]; rfl), HB.out⟩
  by_cases p3 : mem < 0
  · have hr : R = 4 := by rw [HR.out, codeE, if_pos (.inr (.inr (.inl p3)))]
    go_wp2_with fail
    go_ret
    exact ⟨by first | rfl | (rw [hr]; rfl), HB.out⟩
  by_cases p4 : 1048576 < mem
  · have hr : R = 4 := by rw [HR.out, codeE, if_pos (.inr (.inr (.inr p4)))]
    go_wp2_with fail
    go_ret
    exact ⟨by first | rfl | (rw [hr]; rfl), HB.out⟩
  have HP := hide (show ¬ (pad < 0 ∨ 4096 < pad ∨ mem < 0 ∨ 1048576 < mem) by omega)
  have HL := hide (And.intro HM.out.1 HK.out.1)
  by_cases p5 : 262144 < ml
  · have hr : R = 2 := by rw [HR.out, codeE, if_neg HP.out, if_pos (.inl (by rw [HL.out.1]; exact p5))]
    go_wp2_with fail
    go_ret
    exact ⟨by first | rfl | (rw [hr]; rfl), HB.out⟩
  by_cases p6 : 262144 < kl
  · have hr : R = 2 := by rw [HR.out, codeE, if_neg HP.out, if_pos (.inr (by rw [HL.out.2]; exact p6))]
    go_wp2_with fail
    go_ret
    exact ⟨by first | rfl | (rw [hr]; rfl), HB.out⟩
  have hr0 : R = if inssE pad mem true mv ≠ 0 then inssE pad mem true mv else if inssE pad mem false mk ≠ 0 then inssE pad mem false mk else if clashV mv mk = true then 11 else 0 := by
    rw [HR.out, codeE_rest HP.out (by rw [HL.out.1, HL.out.2]; omega)]
  have HR0 := hide hr0
  clear hr0 HR HP
  go_wp2_with fail
  clear p1 p2 p3 p4 p5 p6
  go_loopw [45] (fun vj wv => ∃ j : Nat, j ≤ ml ∧ vj = .int .i64 j ∧ inssE pad mem true (mv.take j) = 0 ∧ CBlk wv w.heap.size ⟨pad, mem, ma, ml, mc, ka, kl, kc⟩ ∧ Below w.heap.size w wv) (fun vj _ => ml - (intOf vj).toNat)
  case atStart => exact ⟨0, by omega, rfl, rfl, HC.out, HB.out⟩
  case round =>
    obtain ⟨j, hj, rfl, hin0, hc, hbv⟩ := hrel
    clear c0 c1 c2 c3 zc
    by_cases hjl : j < ml
    · have hjz : (j : Int) < (ml : Int) := by omega
      obtain ⟨b, off, rfl, hin⟩ := HM.out.2.2.resolve_left (by omega)
      obtain ⟨k0, k1, k2, k3, k4, k5⟩ := (hin j hjl).below hbv
      obtain ⟨x, hx⟩ : ∃ x, x = mv[j]?.getD inD := ⟨_, rfl⟩
      have hjm : j < mv.length := by have := HM.out.1; omega
      have hst := inssE_take (pad := pad) (mem := mem) (e := true) mv j hjm hin0
      have hse := inssE_at (pad := pad) (mem := mem) (e := true) mv j hjm hin0
      rw [← hx] at k0 k1 k2 k3 k4 k5
      rw [← hx] at hst hse
      obtain ⟨V, hV⟩ : ∃ V, V = wr.alloc (.cells #[.int .i64 x.d, .int .i64 x.a, .int .i64 x.b, .int .i64 x.c, .int .i64 x.n, .int .i64 x.v] 50) := ⟨_, rfl⟩
      have hbV : Below wr.heap.size wr V := by rw [hV]; exact bl_new _
      have hI : InBlk V wr.heap.size x := by rw [hV]; exact InBlk.new _ _
      obtain ⟨g9, hg9⟩ : ∃ g9, g9 = wr.heap.size := ⟨_, rfl⟩
      rw [← hg9] at hI
      have zk := lt_of_cell k0
      simp only at zk
      have HV := hide hV
      have H9 := hide hg9
      have HI := hide hI
      have HCV := hide (hc.below hbV)
      have HBV := hide (bl_on hbv hbV)
      have HST := hide hst
      have HSE := hide hse
      clear hin hbV hI hV hg9 hst hse hbv hc hx hin0
      go_upto_region 8 with fail
      rw [← HV.out, ← H9.out]
      clear k0 k1 k2 k3 k4 k5 zk
      obtain ⟨⟨i0, i1, i2, i3, i4, i5⟩, zi⟩ := HI.out.cells
      obtain ⟨⟨c0, c1, c2, c3⟩, zc⟩ := HCV.out.cells
      simp only at c0 c1 c2 c3
      go_wp2_with fail
      refine (HWI0.out x V).mono ?_
      rintro r w3 ⟨rfl, hb3⟩
      have HC4 := hide (HCV.out.below hb3)
      have HB4 := hide (bl_on HBV.out hb3)
      clear hb3 i0 i1 i2 i3 i4 i5 zi c0 c1 c2 c3 zc
      by_cases h0 : insE pad mem true x = 0
      · have HN := hide (HST.out h0)
        rw [h0]
        clear h0
        go_wp2_with fail
        go_roundw
        case rel => exact ⟨j + 1, by omega, by go_num, HN.out, HC4.out, HB4.out⟩
        case measure => simp [intOf]; omega
      · have hr : R = insE pad mem true x := by
          have h1 := HSE.out h0
          rw [HR0.out, h1, if_pos h0]
        have h0b : (insE pad mem true x != 0) = true := by simpa using h0
        obtain ⟨E, hE⟩ : ∃ E, E = insE pad mem true x := ⟨_, rfl⟩
        rw [← hE] at h0b hr ⊢
        clear h0 hE
        go_wp2_with fail
        go_ret
        exact ⟨by first | rfl | (rw [hr]; rfl), HB4.out⟩
    · have hjz : ¬ (j : Int) < (ml : Int) := by omega
      obtain rfl : ml = j := by omega
      have e1 : mv.take ml = mv := List.take_of_length_le (by have := HM.out.1; omega)
      rw [e1] at hin0
      have HI0 := hide hin0
      have HC3 := hide hc
      have HB3 := hide hbv
      clear hin0 hc hbv e1
      obtain ⟨⟨c0, c1, c2, c3⟩, zc⟩ := HC3.out.cells
      simp only at c0 c1 c2 c3
      go_wp2_with fail
      go_loopw [59] (fun vj wv => ∃ j : Nat, j ≤ kl ∧ vj = .int .i64 j ∧ inssE pad mem false (mk.take j) = 0 ∧ CBlk wv w.heap.size ⟨pad, mem, ma, ml, mc, ka, kl, kc⟩ ∧ Below w.heap.size w wv) (fun vj _ => kl - (intOf vj).toNat)
      case atStart => exact ⟨0, by omega, rfl, rfl, HC3.out, HB3.out⟩
      case round =>
        obtain ⟨j, hj, rfl, hin0, hc, hbv⟩ := hrel
        clear c0 c1 c2 c3 zc
        by_cases hjl : j < kl
        · have hjz : (j : Int) < (kl : Int) := by omega
          obtain ⟨b, off, rfl, hin⟩ := HK.out.2.2.resolve_left (by omega)
          obtain ⟨k0, k1, k2, k3, k4, k5⟩ := (hin j hjl).below hbv
          obtain ⟨x, hx⟩ : ∃ x, x = mk[j]?.getD inD := ⟨_, rfl⟩
          have hjm : j < mk.length := by have := HK.out.1; omega
          have hst := inssE_take (pad := pad) (mem := mem) (e := false) mk j hjm hin0
          have hse := inssE_at (pad := pad) (mem := mem) (e := false) mk j hjm hin0
          rw [← hx] at k0 k1 k2 k3 k4 k5
          rw [← hx] at hst hse
          obtain ⟨V, hV⟩ : ∃ V, V = wr.alloc (.cells #[.int .i64 x.d, .int .i64 x.a, .int .i64 x.b, .int .i64 x.c, .int .i64 x.n, .int .i64 x.v] 50) := ⟨_, rfl⟩
          have hbV : Below wr.heap.size wr V := by rw [hV]; exact bl_new _
          have hI : InBlk V wr.heap.size x := by rw [hV]; exact InBlk.new _ _
          obtain ⟨g9, hg9⟩ : ∃ g9, g9 = wr.heap.size := ⟨_, rfl⟩
          rw [← hg9] at hI
          have zk := lt_of_cell k0
          simp only at zk
          have HV := hide hV
          have H9 := hide hg9
          have HI := hide hI
          have HCV := hide (hc.below hbV)
          have HBV := hide (bl_on hbv hbV)
          have HST := hide hst
          have HSE := hide hse
          clear hin hbV hI hV hg9 hst hse hbv hc hx hin0
          go_upto_region 15 with fail
          rw [← HV.out, ← H9.out]
          clear k0 k1 k2 k3 k4 k5 zk
          obtain ⟨⟨i0, i1, i2, i3, i4, i5⟩, zi⟩ := HI.out.cells
          obtain ⟨⟨c0, c1, c2, c3⟩, zc⟩ := HCV.out.cells
          simp only at c0 c1 c2 c3
          go_wp2_with fail
          refine (HWI1.out x V).mono ?_
          rintro r w3 ⟨rfl, hb3⟩
          have HC4 := hide (HCV.out.below hb3)
          have HB4 := hide (bl_on HBV.out hb3)
          clear hb3 i0 i1 i2 i3 i4 i5 zi c0 c1 c2 c3 zc
          by_cases h0 : insE pad mem false x = 0
          · have HN := hide (HST.out h0)
            rw [h0]
            clear h0
            go_wp2_with fail
            go_roundw
            case rel => exact ⟨j + 1, by omega, by go_num, HN.out, HC4.out, HB4.out⟩
            case measure => simp [intOf]; omega
          · have hr : R = insE pad mem false x := by
              have h1 := HSE.out h0
              rw [HR0.out, HI0.out, if_neg (by simp), h1, if_pos h0]
            have h0b : (insE pad mem false x != 0) = true := by simpa using h0
            obtain ⟨E, hE⟩ : ∃ E, E = insE pad mem false x := ⟨_, rfl⟩
            rw [← hE] at h0b hr ⊢
            clear h0 hE
            go_wp2_with fail
            go_ret
            exact ⟨by first | rfl | (rw [hr]; rfl), HB4.out⟩
        · have hjz : ¬ (j : Int) < (kl : Int) := by omega
          obtain rfl : kl = j := by omega
          have e1 : mk.take kl = mk := List.take_of_length_le (by have := HK.out.1; omega)
          rw [e1] at hin0
          have HI1 := hide hin0
          have HC5 := hide hc
          have HB5 := hide hbv
          clear hin0 hc hbv e1
          obtain ⟨⟨c0, c1, c2, c3⟩, zc⟩ := HC5.out.cells
          simp only at c0 c1 c2 c3
          go_wp2_with fail
          have hR1 : R = if clashV mv mk = true then 11 else 0 := by rw [HR0.out, HI0.out, if_neg (by simp), HI1.out, if_neg (by simp)]
          have HR1 := hide hR1
          clear hR1 HI0 HI1 HR0
          go_loopw [9] (fun v9 wv => ∃ s : Nat, s ≤ 16 ∧ v9 = .int .i64 s ∧ (∀ t : Nat, t < s → semV mv mk (t : Int) = false) ∧ CBlk wv w.heap.size ⟨pad, mem, ma, ml, mc, ka, kl, kc⟩ ∧ Below w.heap.size w wv) (fun v9 _ => 16 - (intOf v9).toNat)
          case atStart => exact ⟨0, by omega, rfl, fun t ht => by omega, HC5.out, HB5.out⟩
          case round =>
            obtain ⟨s, hs, rfl, hno, hc, hbv⟩ := hrel
            have HNO := hide hno
            have HCR := hide hc
            have HBR := hide hbv
            clear hno hc hbv c0 c1 c2 c3 zc
            by_cases hsl : s < 16
            · have hsz : (s : Int) < 16 := by omega
              obtain ⟨⟨c0, c1, c2, c3⟩, zc⟩ := HCR.out.cells
              simp only at c0 c1 c2 c3
              obtain ⟨a, ha⟩ : ∃ a, a = usesV mv 3 (s : Int) := ⟨_, rfl⟩
              obtain ⟨b, hb⟩ : ∃ b, b = usesV mk 3 (s : Int) := ⟨_, rfl⟩
              obtain ⟨p, hp⟩ : ∃ p, p = usesV mv 4 (s : Int) := ⟨_, rfl⟩
              obtain ⟨q, hq⟩ : ∃ q, q = usesV mk 4 (s : Int) := ⟨_, rfl⟩
              have HSE : Hid (semV mv mk (s : Int) = ((a || q) && (b || p))) := by rw [Hid, ha, hb, hp, hq]; rfl
              have HUA := hide (fun V hV => HU0.out 3 (s : Int) V hV)
              have HUB := hide (fun V hV => HU1.out 3 (s : Int) V hV)
              have HUP := hide (fun V hV => HU0.out 4 (s : Int) V hV)
              have HUQ := hide (fun V hV => HU1.out 4 (s : Int) V hV)
              rw [← ha] at HUA
              rw [← hb] at HUB
              rw [← hp] at HUP
              rw [← hq] at HUQ
              clear ha hb hp hq
              go_upto_region 22 with fail
              refine region_made 8 10 [fIs (.pointer (some ⟨w.heap.size, 2, none⟩)), fIs (.slice ma ml mc), fIs (.int .i64 (s : Int)), fIs (.bool a), fIs (.pointer (some ⟨w.heap.size, 3, none⟩)), fIs (.slice ka kl kc), fIs (.int .i64 (s : Int)), fIs (.bool b)] (by kernel_rfl) (by kernel_rfl) (by kernel_rfl) (fun ch p q w3 e h => by obtain ⟨t1, d1⟩ := p; obtain ⟨t2, d2⟩ := q; cases e; exact h) ⟨fIs_good _, fIs_good _, fIs_good _, fIs_good _, fIs_good _, fIs_good _, fIs_good _, fIs_good _, trivial⟩ ?mkF ?restF
              case mkF =>
                refine ⟨fun u wz hb hd => ?_, fun u wz hb hd => ?_, fun u wz hb hd => ?_, fun u wz hb hd => ?_, fun u wz hb hd => ?_, fun u wz hb hd => ?_, fun u wz hb hd => ?_, fun u wz hb hd => ?_, trivial⟩
                all_goals simp only [Act.put, List.setIfInBounds_toArray, List.set_cons_zero, List.set_cons_succ]
                · go_simp
                  exact ⟨rfl, Below.refl _ _, fun h => by cases h⟩
                · have e0 : u 0 = .pointer (some ⟨w.heap.size, 2, none⟩) := hd 0 (by omega) (by kernel_rfl)
                  rw [e0]
                  have c2' := (hb.cell (p := ⟨w.heap.size, 2, none⟩) (lt_of_cell c2)).trans c2
                  go_simp
                  exact ⟨rfl, Below.refl _ _, fun h => by cases h⟩
                · go_simp
                  exact ⟨rfl, Below.refl _ _, fun h => by cases h⟩
                · have e1 : u 1 = .slice ma ml mc := hd 1 (by omega) (by kernel_rfl)
                  have e2 : u 2 = .int .i64 (s : Int) := hd 2 (by omega) (by kernel_rfl)
                  rw [e1, e2]
                  go_simp
                  refine (HUA.out wz (bl_on HBR.out hb)).mono ?_
                  rintro r w2 ⟨rfl, hb2⟩
                  exact ⟨rfl, hb2, fun h => by cases h⟩
                · go_simp
                  exact ⟨rfl, Below.refl _ _, fun h => by cases h⟩
                · have e4 : u 4 = .pointer (some ⟨w.heap.size, 3, none⟩) := hd 4 (by omega) (by kernel_rfl)
                  rw [e4]
                  have c3' := (hb.cell (p := ⟨w.heap.size, 3, none⟩) (lt_of_cell c3)).trans c3
                  go_simp
                  exact ⟨rfl, Below.refl _ _, fun h => by cases h⟩
                · go_simp
                  exact ⟨rfl, Below.refl _ _, fun h => by cases h⟩
                · have e5 : u 5 = .slice ka kl kc := hd 5 (by omega) (by kernel_rfl)
                  have e6 : u 6 = .int .i64 (s : Int) := hd 6 (by omega) (by kernel_rfl)
                  rw [e5, e6]
                  go_simp
                  refine (HUB.out wz (bl_on HBR.out hb)).mono ?_
                  rintro r w2 ⟨rfl, hb2⟩
                  exact ⟨rfl, hb2, fun h => by cases h⟩
              case restF =>
                intro u wz hb hf hp
                have f0 : u 0 = .pointer (some ⟨w.heap.size, 2, none⟩) := hf 0 (by omega)
                have f1 : u 1 = .slice ma ml mc := hf 1 (by omega)
                have f2 : u 2 = .int .i64 (s : Int) := hf 2 (by omega)
                have f3 : u 3 = .bool a := hf 3 (by omega)
                have f4 : u 4 = .pointer (some ⟨w.heap.size, 3, none⟩) := hf 4 (by omega)
                have f5 : u 5 = .slice ka kl kc := hf 5 (by omega)
                have f6 : u 6 = .int .i64 (s : Int) := hf 6 (by omega)
                have f7 : u 7 = .bool b := hf 7 (by omega)
                refine UptoW.rest 2 8 (by rfl) (by kernel_rfl) ?_
                simp only [List.take, List.drop, putOps, Act.put, List.setIfInBounds_toArray, List.set_cons_zero, List.set_cons_succ, Nat.reduceAdd, f0, f1, f2, f3, f4, f5, f6, f7]
                clear f0 f1 f2 f3 f4 f5 f6 f7 hf hp
                have HBX := hide (bl_on HBR.out hb)
                have HCX := hide (HCR.out.below hb)
                clear hb c0 c1 c2 c3 zc
                obtain ⟨⟨c0, c1, c2, c3⟩, zc⟩ := HCX.out.cells
                simp only at c0 c1 c2 c3
                obtain ⟨w5, hw5⟩ : ∃ w5, w5 = wz := ⟨_, rfl⟩
                subst hw5
                go_upto_region 23 with fail
                refine region_made 8 10 [fIs (.pointer (some ⟨w.heap.size, 2, none⟩)), fIs (.slice ma ml mc), fIs (.int .i64 (s : Int)), fIs (.bool p), fIs (.pointer (some ⟨w.heap.size, 3, none⟩)), fIs (.slice ka kl kc), fIs (.int .i64 (s : Int)), fIs (.bool q)] (by kernel_rfl) (by kernel_rfl) (by kernel_rfl) (fun ch p q w3 e h => by obtain ⟨t1, d1⟩ := p; obtain ⟨t2, d2⟩ := q; cases e; exact h) ⟨fIs_good _, fIs_good _, fIs_good _, fIs_good _, fIs_good _, fIs_good _, fIs_good _, fIs_good _, trivial⟩ ?mkH ?restH
                case mkH =>
                  refine ⟨fun u wz hb hd => ?_, fun u wz hb hd => ?_, fun u wz hb hd => ?_, fun u wz hb hd => ?_, fun u wz hb hd => ?_, fun u wz hb hd => ?_, fun u wz hb hd => ?_, fun u wz hb hd => ?_, trivial⟩
                  all_goals simp only [Act.put, List.setIfInBounds_toArray, List.set_cons_zero, List.set_cons_succ]
                  · go_simp
                    exact ⟨rfl, Below.refl _ _, fun h => by cases h⟩
                  · have e0 : u 0 = .pointer (some ⟨w.heap.size, 2, none⟩) := hd 0 (by omega) (by kernel_rfl)
                    rw [e0]
                    have c2' := (hb.cell (p := ⟨w.heap.size, 2, none⟩) (lt_of_cell c2)).trans c2
                    go_simp
                    exact ⟨rfl, Below.refl _ _, fun h => by cases h⟩
                  · go_simp
                    exact ⟨rfl, Below.refl _ _, fun h => by cases h⟩
                  · have e1 : u 1 = .slice ma ml mc := hd 1 (by omega) (by kernel_rfl)
                    have e2 : u 2 = .int .i64 (s : Int) := hd 2 (by omega) (by kernel_rfl)
                    rw [e1, e2]
                    go_simp
                    refine (HUP.out wz (bl_on HBX.out hb)).mono ?_
                    rintro r w2 ⟨rfl, hb2⟩
                    exact ⟨rfl, hb2, fun h => by cases h⟩
                  · go_simp
                    exact ⟨rfl, Below.refl _ _, fun h => by cases h⟩
                  · have e4 : u 4 = .pointer (some ⟨w.heap.size, 3, none⟩) := hd 4 (by omega) (by kernel_rfl)
                    rw [e4]
                    have c3' := (hb.cell (p := ⟨w.heap.size, 3, none⟩) (lt_of_cell c3)).trans c3
                    go_simp
                    exact ⟨rfl, Below.refl _ _, fun h => by cases h⟩
                  · go_simp
                    exact ⟨rfl, Below.refl _ _, fun h => by cases h⟩
                  · have e5 : u 5 = .slice ka kl kc := hd 5 (by omega) (by kernel_rfl)
                    have e6 : u 6 = .int .i64 (s : Int) := hd 6 (by omega) (by kernel_rfl)
                    rw [e5, e6]
                    go_simp
                    refine (HUQ.out wz (bl_on HBX.out hb)).mono ?_
                    rintro r w2 ⟨rfl, hb2⟩
                    exact ⟨rfl, hb2, fun h => by cases h⟩
                case restH =>
                  intro u wz hb hf hp
                  have f0 : u 0 = .pointer (some ⟨w.heap.size, 2, none⟩) := hf 0 (by omega)
                  have f1 : u 1 = .slice ma ml mc := hf 1 (by omega)
                  have f2 : u 2 = .int .i64 (s : Int) := hf 2 (by omega)
                  have f3 : u 3 = .bool p := hf 3 (by omega)
                  have f4 : u 4 = .pointer (some ⟨w.heap.size, 3, none⟩) := hf 4 (by omega)
                  have f5 : u 5 = .slice ka kl kc := hf 5 (by omega)
                  have f6 : u 6 = .int .i64 (s : Int) := hf 6 (by omega)
                  have f7 : u 7 = .bool q := hf 7 (by omega)
                  refine UptoW.rest 2 8 (by rfl) (by kernel_rfl) ?_
                  simp only [List.take, List.drop, putOps, Act.put, List.setIfInBounds_toArray, List.set_cons_zero, List.set_cons_succ, Nat.reduceAdd, f0, f1, f2, f3, f4, f5, f6, f7]
                  clear f0 f1 f2 f3 f4 f5 f6 f7 hf hp
                  have HBY := hide (bl_on HBX.out hb)
                  have HCY := hide (HCX.out.below hb)
                  clear hb c0 c1 c2 c3 zc HUA HUB HUP HUQ
                  cases a
                  · cases b
                    · cases p
                      · cases q
                        · go_wp2_with fail
                          go_roundw
                          case rel => exact ⟨s + 1, by omega, by go_num, fun t ht => by
                            by_cases e : t = s
                            · subst e; rw [HSE.out]; rfl
                            · exact HNO.out t (by omega), HCY.out, HBY.out⟩
                          case measure => simp [intOf]; omega
                        · go_wp2_with fail
                          go_roundw
                          case rel => exact ⟨s + 1, by omega, by go_num, fun t ht => by
                            by_cases e : t = s
                            · subst e; rw [HSE.out]; rfl
                            · exact HNO.out t (by omega), HCY.out, HBY.out⟩
                          case measure => simp [intOf]; omega
                      · cases q
                        · go_wp2_with fail
                          go_roundw
                          case rel => exact ⟨s + 1, by omega, by go_num, fun t ht => by
                            by_cases e : t = s
                            · subst e; rw [HSE.out]; rfl
                            · exact HNO.out t (by omega), HCY.out, HBY.out⟩
                          case measure => simp [intOf]; omega
                        · have hr : R = 11 := by
                            rw [HR1.out, if_pos]
                            unfold clashV
                            rw [List.any_eq_true]
                            exact ⟨s, by simpa using hsl, by rw [HSE.out]; rfl⟩
                          go_wp2_with fail
                          go_ret
                          exact ⟨by first | rfl | (rw [hr]; rfl), HBY.out⟩
                    · cases p
                      · cases q
                        · go_wp2_with fail
                          go_roundw
                          case rel => exact ⟨s + 1, by omega, by go_num, fun t ht => by
                            by_cases e : t = s
                            · subst e; rw [HSE.out]; rfl
                            · exact HNO.out t (by omega), HCY.out, HBY.out⟩
                          case measure => simp [intOf]; omega
                        · have hr : R = 11 := by
                            rw [HR1.out, if_pos]
                            unfold clashV
                            rw [List.any_eq_true]
                            exact ⟨s, by simpa using hsl, by rw [HSE.out]; rfl⟩
                          go_wp2_with fail
                          go_ret
                          exact ⟨by first | rfl | (rw [hr]; rfl), HBY.out⟩
                      · cases q
                        · go_wp2_with fail
                          go_roundw
                          case rel => exact ⟨s + 1, by omega, by go_num, fun t ht => by
                            by_cases e : t = s
                            · subst e; rw [HSE.out]; rfl
                            · exact HNO.out t (by omega), HCY.out, HBY.out⟩
                          case measure => simp [intOf]; omega
                        · have hr : R = 11 := by
                            rw [HR1.out, if_pos]
                            unfold clashV
                            rw [List.any_eq_true]
                            exact ⟨s, by simpa using hsl, by rw [HSE.out]; rfl⟩
                          go_wp2_with fail
                          go_ret
                          exact ⟨by first | rfl | (rw [hr]; rfl), HBY.out⟩
                  · cases b
                    · cases p
                      · cases q
                        · go_wp2_with fail
                          go_roundw
                          case rel => exact ⟨s + 1, by omega, by go_num, fun t ht => by
                            by_cases e : t = s
                            · subst e; rw [HSE.out]; rfl
                            · exact HNO.out t (by omega), HCY.out, HBY.out⟩
                          case measure => simp [intOf]; omega
                        · go_wp2_with fail
                          go_roundw
                          case rel => exact ⟨s + 1, by omega, by go_num, fun t ht => by
                            by_cases e : t = s
                            · subst e; rw [HSE.out]; rfl
                            · exact HNO.out t (by omega), HCY.out, HBY.out⟩
                          case measure => simp [intOf]; omega
                      · cases q
                        · have hr : R = 11 := by
                            rw [HR1.out, if_pos]
                            unfold clashV
                            rw [List.any_eq_true]
                            exact ⟨s, by simpa using hsl, by rw [HSE.out]; rfl⟩
                          go_wp2_with fail
                          go_ret
                          exact ⟨by first | rfl | (rw [hr]; rfl), HBY.out⟩
                        · have hr : R = 11 := by
                            rw [HR1.out, if_pos]
                            unfold clashV
                            rw [List.any_eq_true]
                            exact ⟨s, by simpa using hsl, by rw [HSE.out]; rfl⟩
                          go_wp2_with fail
                          go_ret
                          exact ⟨by first | rfl | (rw [hr]; rfl), HBY.out⟩
                    · cases p
                      · cases q
                        · have hr : R = 11 := by
                            rw [HR1.out, if_pos]
                            unfold clashV
                            rw [List.any_eq_true]
                            exact ⟨s, by simpa using hsl, by rw [HSE.out]; rfl⟩
                          go_wp2_with fail
                          go_ret
                          exact ⟨by first | rfl | (rw [hr]; rfl), HBY.out⟩
                        · have hr : R = 11 := by
                            rw [HR1.out, if_pos]
                            unfold clashV
                            rw [List.any_eq_true]
                            exact ⟨s, by simpa using hsl, by rw [HSE.out]; rfl⟩
                          go_wp2_with fail
                          go_ret
                          exact ⟨by first | rfl | (rw [hr]; rfl), HBY.out⟩
                      · cases q
                        · have hr : R = 11 := by
                            rw [HR1.out, if_pos]
                            unfold clashV
                            rw [List.any_eq_true]
                            exact ⟨s, by simpa using hsl, by rw [HSE.out]; rfl⟩
                          go_wp2_with fail
                          go_ret
                          exact ⟨by first | rfl | (rw [hr]; rfl), HBY.out⟩
                        · have hr : R = 11 := by
                            rw [HR1.out, if_pos]
                            unfold clashV
                            rw [List.any_eq_true]
                            exact ⟨s, by simpa using hsl, by rw [HSE.out]; rfl⟩
                          go_wp2_with fail
                          go_ret
                          exact ⟨by first | rfl | (rw [hr]; rfl), HBY.out⟩
            · have hsz : ¬ (s : Int) < 16 := by omega
              have hr : R = 0 := by
                rw [HR1.out, if_neg]
                unfold clashV
                rw [Bool.not_eq_true, List.any_eq_false]
                intro t ht
                rw [HNO.out t (by have : t < 16 := by simpa using ht
                                  omega)]
                simp
              go_wp2_with fail
              go_ret
              exact ⟨by first | rfl | (rw [hr]; rfl), HBR.out⟩
end Go.Proofs.YtoabffmiedbkkaaGreat.V
