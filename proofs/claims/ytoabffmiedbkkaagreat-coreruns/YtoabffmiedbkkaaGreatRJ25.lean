/-
  The document's Do: kind 10.
-/
import Derived.Test.YtoabffmiedbkkaaGreatRJ16
namespace Go.Proofs.YtoabffmiedbkkaaGreat.V
set_option maxRecDepth 20000
open Go Go.RowKit
set_option linter.unusedVariables false
set_option linter.unusedSimpArgs false

set_option maxRecDepth 20000 in
set_option maxHeartbeats 8000000 in
theorem rdo13_10 (a b c9 N : Nat) (v : Int) (P M : Sw1) (gp op gm om : Nat) (p q : Int → Int) (W : World) (hp : WrdAt W P gp op p) (hm : WrdAt W M gm om q) (hne : gp ≠ gm) (hP9 : P.n ≤ 4096) (hN4 : N ≤ 4096) (ha : a + N ≤ P.n) (hb9 : b + N ≤ P.n) (hc9 : c9 + N ≤ P.n) :
    Calls Tryz.prog 17 #[.agg #[.int .i64 10, .int .i64 (a : Int), .int .i64 (b : Int), .int .i64 (c9 : Int), .int .i64 (N : Int), .int .i64 v], .slice P.a P.n P.c, .slice M.a M.n M.c] W fun e w' => DoAns P M gp op gm om p q W ⟨10, (a : Int), (b : Int), (c9 : Int), (N : Int), v⟩ e w' := by
  obtain ⟨V, hV⟩ : ∃ V, V = W.alloc (.cells #[.int .i64 10, .int .i64 (a : Int), .int .i64 (b : Int), .int .i64 (c9 : Int), .int .i64 (N : Int), .int .i64 v] 50) := ⟨_, rfl⟩
  obtain ⟨ib, hib⟩ : ∃ b, b = W.heap.size := ⟨_, rfl⟩
  have hbV : Below W.heap.size W V := by rw [hV]; exact bl_new _
  have hIB : InB V ib 10 (a : Int) (b : Int) (c9 : Int) (N : Int) v := by unfold InB; rw [hV, hib]; exact World.alloc_heap_new _ _
  have hp' := hp.below hbV
  have hm' := hm.below hbV
  have hgl : 0 < P.n → gp < ib := fun h0 => by rw [hib]; exact hp.lt h0
  have hml : 0 < M.n → gm < ib := fun h0 => by rw [hib]; exact hm.lt h0
  have HV := hide hV
  have HIBE := hide hib
  have HIL := hide hIB.lt
  have HBV := hide hbV
  have HIB := hide hIB
  have HP := hide hp'
  have HM := hide hm'
  obtain ⟨Q, hQ⟩ : ∃ Q, Q = DoAns P M gp op gm om p q W ⟨10, (a : Int), (b : Int), (c9 : Int), (N : Int), v⟩ := ⟨_, rfl⟩
  rw [← hQ]
  have HQ := hide hQ
  clear hp hm hp' hm' hV hib hbV hIB hQ
  go_enter Tryz.func17, Tryz.ntmps17
  go_upto_region 1 with fail
  rw [← HV.out, ← HIBE.out]
  go_upto_region 2 with (at_builtin; refine wpl_wrd_e rfl (.tmp 8) (.tmp 9) rfl _ P.n P.c P.a p rfl rfl (fun h0 => ⟨gp, op, HP.out.1 h0, fun k hk => ((HP.out.below (bl_new _)).cell hk)⟩) (by omega) ?_; intro go oc w3 ho3 hg3 hb3)
  have hbz3 := Below.on HBV.out (Below.on (bl_new (w := V) (.cells #[] 2)) hb3.out)
  have hb13 := Below.on (bl_new (w := V) (.cells #[] 2)) hb3.out
  have hgo1 : 0 < P.n → ib < go := fun h0 => by
    have h1 := hg3.out h0
    have h2 := HIL.out
    simp at h1
    omega
  have HG := hide hgo1
  have HP3 := hide (HP.out.below hb13)
  have HM3 := hide (HM.out.below hb13)
  have HI3 := hide (HIB.out.below hb13)
  have HW3 : Hid (WrB (fun b => b = gp ∨ b = gm) W w3) := WrB.of hbz3
  clear hbz3 hb13 hgo1 HP HM HIB HIL hg3 hb3
  have HO3 : Hid (WrdAt w3 ⟨some ⟨go, 0, none⟩, P.n, oc⟩ go 0 p) := ho3
  clear ho3
  go_wp2_with fail
  go_loopw [7] (fun i wr => ∃ k : Nat, k ≤ N ∧ i = .int .i64 k ∧ WrdAt wr P gp op (padS (⟨10, (a : Int), (b : Int), (c9 : Int), (N : Int), v⟩) p q k) ∧ WrdAt wr M gm om (q) ∧ WrdAt wr ⟨some ⟨go, 0, none⟩, P.n, oc⟩ go 0 p ∧ InB wr ib 10 (a : Int) (b : Int) (c9 : Int) (N : Int) v ∧ WrB (fun b => b = gp ∨ b = gm) W wr) (fun i _ => N - (intOf i).toNat)
  case atStart => exact ⟨0, Nat.zero_le _, by first | rfl | trivial, HP3.out.congr (fun w hw => (padS_zero _ _ _ _).symm), HM3.out, HO3.out, HI3.out, HW3.out⟩
  case round =>
    obtain ⟨k, hk, rfl, h1, h2, h3, h4, h5⟩ := hrel
    have HPR := hide h1
    have HMR := hide h2
    have HOR := hide h3
    have HIR := hide h4
    have HWR := hide h5
    obtain ⟨i0, i1, i2, i3, i4, i5⟩ := h4.cells
    have zi := h4.lt
    clear h1 h2 h3 h4 h5
    by_cases hlt : k < N
    · have hkz : (k : Int) < (N : Int) := by omega
      have hpn0 : 0 < P.n := by omega
      have hpa : P.a = some ⟨gp, op, none⟩ := HPR.out.1 hpn0
      have hgi := hgl hpn0
      have hgo := HG.out hpn0
      obtain ⟨ka, hka⟩ : ∃ ka : Nat, ka = a + k := ⟨_, rfl⟩
      have HWKA : Hid (IntKind.i64.wrap ((a : Int) + (k : Int)) = (ka : Int)) := by
        show IntKind.i64.wrap _ = _
        rw [wrapk_sm (by omega) (by omega)]
        omega
      have HKA : Hid ((ka : Int) = (a : Int) + (k : Int)) := by show _ = _; omega
      have hkal : ka < P.n := by omega
      obtain ⟨kb, hkb⟩ : ∃ kb : Nat, kb = b + k := ⟨_, rfl⟩
      have HWKB : Hid (IntKind.i64.wrap ((b : Int) + (k : Int)) = (kb : Int)) := by
        show IntKind.i64.wrap _ = _
        rw [wrapk_sm (by omega) (by omega)]
        omega
      have HKB : Hid ((kb : Int) = (b : Int) + (k : Int)) := by show _ = _; omega
      have hkbl : kb < P.n := by omega
      obtain ⟨vb, hvb⟩ : ∃ v, v = p (kb : Int) := ⟨_, rfl⟩
      have HVB := hide hvb
      obtain ⟨kc, hkc⟩ : ∃ kc : Nat, kc = c9 + k := ⟨_, rfl⟩
      have HWKC : Hid (IntKind.i64.wrap ((c9 : Int) + (k : Int)) = (kc : Int)) := by
        show IntKind.i64.wrap _ = _
        rw [wrapk_sm (by omega) (by omega)]
        omega
      have HKC : Hid ((kc : Int) = (c9 : Int) + (k : Int)) := by show _ = _; omega
      have hkcl : kc < P.n := by omega
      obtain ⟨vc, hvc⟩ : ∃ v, v = p (kc : Int) := ⟨_, rfl⟩
      have HVC := hide hvc
      obtain ⟨D, hD⟩ : ∃ D, D = decide (vb < vc) := ⟨_, rfl⟩
      have HD := hide hD
      have HKE := hide hka
      clear hka hkb hvb hkc hvc hD
      have q1 : (0 : Int) ≤ (a : Int) + (k : Int) := by omega
      have q2 : (a : Int) + (k : Int) < (P.n : Int) := by omega
      have sc := HPR.out.cell (k := a + k) (by omega)
      have sf := HPR.out.frozen (by omega) (op + (a + k))
      have sz := HPR.out.lt (by omega)
      go_upto_region 24 with fail
      rw [← HKE.out]
      clear sc sf sz q1 q2
      clear i0 i1 i2 i3 i4 i5 zi
      obtain ⟨V1, hV1⟩ : ∃ V, V = wr.setCell ⟨gp, op + ka, none⟩ (.int .i64 0) := ⟨_, rfl⟩
      rw [← hV1]
      have HP1 := hide (show WrdAt V1 P gp op _ by rw [hV1]; exact HPR.out.put hkal 0)
      have HM1 := hide (show WrdAt V1 M gm om q by rw [hV1]; exact HMR.out.keep (fun _ => Below.heap_setCell _ _ _ _ hne.symm))
      have HO1 := hide (show WrdAt V1 ⟨some ⟨go, 0, none⟩, P.n, oc⟩ go 0 p by rw [hV1]; exact HOR.out.keep (fun _ => Below.heap_setCell _ _ _ _ (by simp only; omega)))
      have HI1 := hide (show InB V1 ib _ _ _ _ _ _ by rw [hV1]; exact HIR.out.set (by simp only; omega) _)
      have HW1 := hide (show WrB (fun b => b = gp ∨ b = gm) W V1 by rw [hV1]; exact HWR.out.set (.inl rfl) _)
      clear hV1
      obtain ⟨i0, i1, i2, i3, i4, i5⟩ := HI1.out.cells
      have zi := HI1.out.lt
      have cvb := HO1.out.cell (k := kb) (by simp only; omega)
      rw [Nat.zero_add] at cvb
      rw [← HVB.out] at cvb
      have cvc := HO1.out.cell (k := kc) (by simp only; omega)
      rw [Nat.zero_add] at cvc
      rw [← HVC.out] at cvc
      refine region_made 15 17 [fIs (.slice (some ⟨go, 0, none⟩) P.n oc), fIs (.pointer (some ⟨ib, 2, none⟩)), fIs (.int .i64 (b : Int)), fIs (.int .i64 (k : Int)), fIs (.int .i64 (kb : Int)), fIs (.pointer (some ⟨go, kb, none⟩)), fIs (.int .i64 vb), fIs (.slice (some ⟨go, 0, none⟩) P.n oc), fIs (.pointer (some ⟨ib, 3, none⟩)), fIs (.int .i64 (c9 : Int)), fIs (.int .i64 (k : Int)), fIs (.int .i64 (kc : Int)), fIs (.pointer (some ⟨go, kc, none⟩)), fIs (.int .i64 vc), fIs (.bool D)] (by kernel_rfl) (by kernel_rfl) (by kernel_rfl) (fun _ ⟨_, _⟩ ⟨_, _⟩ _ e h => by cases e; exact h) ⟨fIs_good _, fIs_good _, fIs_good _, fIs_good _, fIs_good _, fIs_good _, fIs_good _, fIs_good _, fIs_good _, fIs_good _, fIs_good _, fIs_good _, fIs_good _, fIs_good _, fIs_good _, trivial⟩ ?mk2 ?rest2
      case mk2 =>
        as_aux_lemma =>
          refine ⟨fun u wz hb hd => ?_, fun u wz hb hd => ?_, fun u wz hb hd => ?_, fun u wz hb hd => ?_, fun u wz hb hd => ?_, fun u wz hb hd => ?_, fun u wz hb hd => ?_, fun u wz hb hd => ?_, fun u wz hb hd => ?_, fun u wz hb hd => ?_, fun u wz hb hd => ?_, fun u wz hb hd => ?_, fun u wz hb hd => ?_, fun u wz hb hd => ?_, fun u wz hb hd => ?_, trivial⟩
          all_goals simp only [Act.put, List.setIfInBounds_toArray, List.set_cons_zero, List.set_cons_succ]
          · go_simp
            exact ⟨rfl, Below.refl _ _, fun h => by cases h⟩
          · go_simp
            exact ⟨rfl, Below.refl _ _, fun h => by cases h⟩
          · have e1 : u 1 = .pointer (some ⟨ib, 2, none⟩) := hd 1 (by omega) (by kernel_rfl)
            rw [e1]
            have i2' := (hb.cell (p := ⟨ib, 2, none⟩) (lt_of_cell i2)).trans i2
            go_simp
            exact ⟨rfl, Below.refl _ _, fun h => by cases h⟩
          · go_simp
            exact ⟨rfl, Below.refl _ _, fun h => by cases h⟩
          · have e2 : u 2 = .int .i64 (b : Int) := hd 2 (by omega) (by kernel_rfl)
            have e3 : u 3 = .int .i64 (k : Int) := hd 3 (by omega) (by kernel_rfl)
            rw [e2, e3]
            go_simp
            rw [HWKB.out]
            exact ⟨rfl, Below.refl _ _, fun h => by cases h⟩
          · have e0 : u 0 = .slice (some ⟨go, 0, none⟩) P.n oc := hd 0 (by omega) (by kernel_rfl)
            have e4 : u 4 = .int .i64 (kb : Int) := hd 4 (by omega) (by kernel_rfl)
            rw [e0, e4]
            have q1 : (0 : Int) ≤ (kb : Int) := by omega
            have q2 : (kb : Int) < (P.n : Int) := by omega
            go_simp
            exact ⟨rfl, Below.refl _ _, fun h => by cases h⟩
          · have e5 : u 5 = .pointer (some ⟨go, kb, none⟩) := hd 5 (by omega) (by kernel_rfl)
            rw [e5]
            have cvb' := (hb.cell (p := ⟨go, kb, none⟩) (lt_of_cell cvb)).trans cvb
            go_simp
            exact ⟨rfl, Below.refl _ _, fun h => by cases h⟩
          · go_simp
            exact ⟨rfl, Below.refl _ _, fun h => by cases h⟩
          · go_simp
            exact ⟨rfl, Below.refl _ _, fun h => by cases h⟩
          · have e8 : u 8 = .pointer (some ⟨ib, 3, none⟩) := hd 8 (by omega) (by kernel_rfl)
            rw [e8]
            have i3' := (hb.cell (p := ⟨ib, 3, none⟩) (lt_of_cell i3)).trans i3
            go_simp
            exact ⟨rfl, Below.refl _ _, fun h => by cases h⟩
          · go_simp
            exact ⟨rfl, Below.refl _ _, fun h => by cases h⟩
          · have e9 : u 9 = .int .i64 (c9 : Int) := hd 9 (by omega) (by kernel_rfl)
            have e10 : u 10 = .int .i64 (k : Int) := hd 10 (by omega) (by kernel_rfl)
            rw [e9, e10]
            go_simp
            rw [HWKC.out]
            exact ⟨rfl, Below.refl _ _, fun h => by cases h⟩
          · have e7 : u 7 = .slice (some ⟨go, 0, none⟩) P.n oc := hd 7 (by omega) (by kernel_rfl)
            have e11 : u 11 = .int .i64 (kc : Int) := hd 11 (by omega) (by kernel_rfl)
            rw [e7, e11]
            have q1 : (0 : Int) ≤ (kc : Int) := by omega
            have q2 : (kc : Int) < (P.n : Int) := by omega
            go_simp
            exact ⟨rfl, Below.refl _ _, fun h => by cases h⟩
          · have e12 : u 12 = .pointer (some ⟨go, kc, none⟩) := hd 12 (by omega) (by kernel_rfl)
            rw [e12]
            have cvc' := (hb.cell (p := ⟨go, kc, none⟩) (lt_of_cell cvc)).trans cvc
            go_simp
            exact ⟨rfl, Below.refl _ _, fun h => by cases h⟩
          · have e6 : u 6 = .int .i64 vb := hd 6 (by omega) (by kernel_rfl)
            have e13 : u 13 = .int .i64 vc := hd 13 (by omega) (by kernel_rfl)
            rw [e6, e13]
            go_simp
            rw [← HD.out]
            exact ⟨rfl, Below.refl _ _, fun h => by cases h⟩
      case rest2 =>
        intro u wz hb hf hp
        have f0 : u 0 = .slice (some ⟨go, 0, none⟩) P.n oc := hf 0 (by omega)
        have f1 : u 1 = .pointer (some ⟨ib, 2, none⟩) := hf 1 (by omega)
        have f2 : u 2 = .int .i64 (b : Int) := hf 2 (by omega)
        have f3 : u 3 = .int .i64 (k : Int) := hf 3 (by omega)
        have f4 : u 4 = .int .i64 (kb : Int) := hf 4 (by omega)
        have f5 : u 5 = .pointer (some ⟨go, kb, none⟩) := hf 5 (by omega)
        have f6 : u 6 = .int .i64 vb := hf 6 (by omega)
        have f7 : u 7 = .slice (some ⟨go, 0, none⟩) P.n oc := hf 7 (by omega)
        have f8 : u 8 = .pointer (some ⟨ib, 3, none⟩) := hf 8 (by omega)
        have f9 : u 9 = .int .i64 (c9 : Int) := hf 9 (by omega)
        have f10 : u 10 = .int .i64 (k : Int) := hf 10 (by omega)
        have f11 : u 11 = .int .i64 (kc : Int) := hf 11 (by omega)
        have f12 : u 12 = .pointer (some ⟨go, kc, none⟩) := hf 12 (by omega)
        have f13 : u 13 = .int .i64 vc := hf 13 (by omega)
        have f14 : u 14 = .bool D := hf 14 (by omega)
        refine UptoW.rest 0 15 (by rfl) (by kernel_rfl) ?_
        simp only [List.take, List.drop, putOps, Act.put, List.setIfInBounds_toArray, List.set_cons_zero, List.set_cons_succ, Nat.reduceAdd, f0, f1, f2, f3, f4, f5, f6, f7, f8, f9, f10, f11, f12, f13, f14]
        clear f0 f1 f2 f3 f4 f5 f6 f7 f8 f9 f10 f11 f12 f13 f14 hf hp
        have HP2 := hide (HP1.out.below hb)
        have HM2 := hide (HM1.out.below hb)
        have HO2 := hide (HO1.out.below hb)
        have HI2 := hide (HI1.out.below hb)
        have HW2 := hide (HW1.out.trans (WrB.of hb))
        clear hb
        clear i0 i1 i2 i3 i4 i5 zi cvb cvc
        cases D with
        | true =>
          have hc : vb < vc := by simpa using HD.out.symm
          have HC := hide hc
          clear hc
          obtain ⟨i0, i1, i2, i3, i4, i5⟩ := HI2.out.cells
          have zi := HI2.out.lt
          have q1 : (0 : Int) ≤ (a : Int) + (k : Int) := by omega
          have q2 : (a : Int) + (k : Int) < (P.n : Int) := by omega
          have sc := HP2.out.cell (k := a + k) (by omega)
          have sf := HP2.out.frozen (by omega) (op + (a + k))
          have sz := HP2.out.lt (by omega)
          go_upto_region 25 with fail
          go_wp2_with fail
          rw [← HKE.out]
          clear sc sf sz q1 q2
          clear i0 i1 i2 i3 i4 i5 zi
          obtain ⟨V3, hV3⟩ : ∃ V, V = wz.setCell ⟨gp, op + ka, none⟩ (.int .i64 1) := ⟨_, rfl⟩
          rw [← hV3]
          have HP3 := hide (show WrdAt V3 P gp op _ by rw [hV3]; exact HP2.out.put hkal 1)
          have HM3 := hide (show WrdAt V3 M gm om q by rw [hV3]; exact HM2.out.keep (fun _ => Below.heap_setCell _ _ _ _ hne.symm))
          have HO3 := hide (show WrdAt V3 ⟨some ⟨go, 0, none⟩, P.n, oc⟩ go 0 p by rw [hV3]; exact HO2.out.keep (fun _ => Below.heap_setCell _ _ _ _ (by simp only; omega)))
          have HI3 := hide (show InB V3 ib _ _ _ _ _ _ by rw [hV3]; exact HI2.out.set (by simp only; omega) _)
          have HW3 := hide (show WrB (fun b => b = gp ∨ b = gm) W V3 by rw [hV3]; exact HW2.out.set (.inl rfl) _)
          clear hV3
          obtain ⟨i0, i1, i2, i3, i4, i5⟩ := HI3.out.cells
          have zi := HI3.out.lt
          clear i0 i1 i2 i3 i4 i5 zi
          have hc := HC.out
          go_roundw
          case rel =>
            refine ⟨k + 1, by omega, by first | rfl | go_num, ?_, HM3.out, HO3.out, HI3.out, HW3.out⟩
            refine WrdAt.congr HP3.out (fun w hw => ?_)
            rw [padS_step (x := ⟨10, (a : Int), (b : Int), (c9 : Int), (N : Int), v⟩) (by simp) p q k ka HKA.out]
            simp only
            rw [← HKB.out, ← HVB.out, ← HKC.out, ← HVC.out]
            by_cases e : (w : Int) = (ka : Int)
            · simp [newE, twoI, e, hc]
            · simp [e]
          case measure => simp [intOf]; omega
        | false =>
          have hc : ¬ vb < vc := by simpa using HD.out.symm
          have HC := hide hc
          clear hc
          go_wp2_with fail
          have hc := HC.out
          go_roundw
          case rel =>
            refine ⟨k + 1, by omega, by first | rfl | go_num, ?_, HM2.out, HO2.out, HI2.out, HW2.out⟩
            refine WrdAt.congr HP2.out (fun w hw => ?_)
            rw [padS_step (x := ⟨10, (a : Int), (b : Int), (c9 : Int), (N : Int), v⟩) (by simp) p q k ka HKA.out]
            simp only
            rw [← HKB.out, ← HVB.out, ← HKC.out, ← HVC.out]
            by_cases e : (w : Int) = (ka : Int)
            · simp [newE, twoI, e, hc]
            · simp [e]
          case measure => simp [intOf]; omega
    · obtain rfl : N = k := by omega
      go_wp2_with fail
      refine bodyPost_end (v := .tuple #[]) (by simp [results, Tryz.results17, go_sem]) rfl ?_
      rw [HQ.out]
      exact ⟨rfl, HPR.out.congr (fun w hw => padS_all (by simp) p q N rfl _), HMR.out.congr (fun w hw => by unfold doMm; rw [if_neg (by simp)]), HWR.out⟩
end Go.Proofs.YtoabffmiedbkkaaGreat.V
