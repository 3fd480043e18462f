/-
  Contracts: order.Legal, order.Free.
-/
import Derived.Test.YtkbdnhchlkafnaaK20
import Derived.Test.YtkbdnhchlkafnaaK13
namespace Go.Proofs.Ytkbdnhchlkafnaa.V
open Go Go.RowKit
set_option linter.unusedVariables false

theorem badA_eq (zs : List Int) (ss : List Stm) (T : Tms) (al : Bool) : badA (fun f g => if al = true then eq8 f g else befB g f) zs ss T = badP (memZ zs) ss T al := by
  funext a b
  rfl
theorem look_any (al : Bool) (g : Nat) (eg : ∀ args w, (callFunc g args).run Try.prog w = .ok (.enter g args) w) (hg : ∀ (u v : TW) (W : World), Calls Try.prog g #[u.v, v.v] W fun e W' => e = .returned (.bool (if al = true then eq8 u.tm v.tm else befB v.tm u.tm)) ∧ Below W.heap.size W W')
    (za : Option Addr) (zl zc : Nat) (zs : List Int) (ta : Option Addr) (tl tc : Nat) (ss : List Stm) (ma : Option Addr) (ml mc : Nat) (T : Tms) (w : World) (hz : Ints w za zl zs) (hs : Stms w ta tl ss) (hT : TimesA w ma ml T) :
    Calls Try.prog 28 #[.agg #[.slice za zl zc, .slice ta tl tc], .slice ma ml mc, .func (.func g) #[] #[]] w fun e w' => (∃ v, e = .returned (.tuple #[v, .int .i64 (rightE zs ss T)]) ∧ FindV zs ss T al w' v) ∧ Below w.heap.size w w' := by
  by_cases hE : rightE zs ss T = 0
  · refine (look_good (fun f g => if al = true then eq8 f g else befB g f) g eg hg za zl zc zs ta tl tc ss ma ml mc T w hz hs hT hE).mono ?_
    rintro e w' ⟨⟨v, rfl, h⟩, hb⟩
    rw [badA_eq] at h
    exact ⟨⟨v, by rw [hE], .inr ⟨hE, h⟩⟩, hb⟩
  · refine (look_bad za zl zc zs ta tl tc ss ma ml mc T _ w hz hs hT hE).mono ?_
    rintro e w' ⟨rfl, hb⟩
    exact ⟨⟨_, rfl, .inl ⟨hE, rfl⟩⟩, hb⟩
set_option maxRecDepth 100000 in
set_option maxHeartbeats 2000000 in
theorem oLegal_any (za : Option Addr) (zl zc : Nat) (zs : List Int) (ta : Option Addr) (tl tc : Nat) (ss : List Stm) (ma : Option Addr) (ml mc : Nat) (T : Tms) (w : World) (hz : Ints w za zl zs) (hs : Stms w ta tl ss) (hT : TimesA w ma ml T) :
    Calls Try.prog 9 #[.agg #[.slice za zl zc, .slice ta tl tc], .slice ma ml mc] w fun e w' => (∃ v, e = .returned (.tuple #[v, .int .i64 (rightE zs ss T)]) ∧ FindV zs ss T false w' v) ∧ Below w.heap.size w w' := by
  obtain ⟨W, hW⟩ : ∃ W, W = (w.alloc (.cells #[.slice za zl zc, .slice ta tl tc] 25)).alloc (.cells #[.bool false, .int .i64 0, .slice none 0 0, .int .i64 0, .slice none 0 0] 31) := ⟨_, rfl⟩
  have BW : Below w.heap.size w W := by rw [hW]; exact bl_on (bl_new _) (bl_new _)
  have N1 : NsBlk W w.heap.size za zl zc ta tl tc := by rw [hW]; exact (Below.heap_alloc _ _ _ (by simp)).trans (World.alloc_heap_new w _)
  have F1 : W.heap[w.heap.size + 1]? = some (.cells #[.bool false, .int .i64 0, .slice none 0 0, .int .i64 0, .slice none 0 0] 31 (0, 0)) := by
    rw [hW]
    have := World.alloc_heap_new (w.alloc (.cells #[.slice za zl zc, .slice ta tl tc] 25)) (.cells #[.bool false, .int .i64 0, .slice none 0 0, .int .i64 0, .slice none 0 0] 31)
    rw [World.size_alloc] at this
    exact this
  obtain ⟨n0, n1⟩ := N1.cells
  have zn := N1.lt
  have HC := hide (look_any false 29 (enters_of Try.func29 (by kernel_rfl) rfl) (fun u v W => legal1_any u v W) za zl zc zs ta tl tc ss ma ml mc T W (hz.below BW) (hs.below BW) (hT.below BW))
  have HW := hide hW
  have HBW := hide BW
  have HF := hide F1
  clear hz hs hT hW BW F1 N1
  go_enter Try.func9, Try.ntmps9
  go_wp2_with fail
  rw [← HW.out]
  refine HC.out.mono ?_
  rintro e w1 ⟨⟨v, rfl, hv⟩, hb⟩
  have HB1 := hide (bl_on HBW.out hb)
  have F2 := (hb.block _ (Array.getElem?_eq_some_iff.1 HF.out).1).trans HF.out
  obtain ⟨x, i, a, l, c, i2, a2, l2, c2, rfl, hv2⟩ := hv.put F2
  have RW5 := row5 (five (.bool false) (.int .i64 0) (.slice none 0 0) (.int .i64 0) (.slice none 0 0)) F2
  have HRW := hide RW5
  have HV2 := hide hv2
  have f0 := RW5.cell (i := 0) (by omega)
  have g0 := RW5.frozen 0
  have f1 := RW5.cell (i := 1) (by omega)
  have g1 := RW5.frozen 1
  have f2 := RW5.cell (i := 2) (by omega)
  have g2 := RW5.frozen 2
  have f3 := RW5.cell (i := 3) (by omega)
  have g3 := RW5.frozen 3
  have f4 := RW5.cell (i := 4) (by omega)
  have g4 := RW5.frozen 4
  simp only [five] at f0 f1 f2 f3 f4
  have zf := (Array.getElem?_eq_some_iff.1 F2).1
  clear hb n0 n1 zn F2 hv hv2 RW5
  go_wp2_with fail
  have RF := set5 HRW.out (five (.bool x) (.int .i64 i) (.slice a l c) (.int .i64 i2) (.slice a2 l2 c2))
  have BF := below5 HB1.out (b := w.heap.size + 1) (by omega) (five (.bool x) (.int .i64 i) (.slice a l c) (.int .i64 i2) (.slice a2 l2 c2))
  have VF := HV2.out
  have hput : ((((w1.setCell ⟨w.heap.size + 1, 0, none⟩ (.bool x)).setCell ⟨w.heap.size + 1, 1, none⟩ (.int .i64 i)).setCell ⟨w.heap.size + 1, 2, none⟩ (.slice a l c)).setCell ⟨w.heap.size + 1, 3, none⟩ (.int .i64 i2)).setCell ⟨w.heap.size + 1, 4, none⟩ (.slice a2 l2 c2) = put5 w1 (w.heap.size + 1) (five (.bool x) (.int .i64 i) (.slice a l c) (.int .i64 i2) (.slice a2 l2 c2)) := rfl
  rw [hput]
  clear hput HV2 HRW
  generalize put5 w1 (w.heap.size + 1) (five (.bool x) (.int .i64 i) (.slice a l c) (.int .i64 i2) (.slice a2 l2 c2)) = wf at RF BF VF ⊢
  have k0 := RF.cell (i := 0) (by omega)
  have k1 := RF.cell (i := 1) (by omega)
  have k2 := RF.cell (i := 2) (by omega)
  have k3 := RF.cell (i := 3) (by omega)
  have k4 := RF.cell (i := 4) (by omega)
  simp only [five] at k0 k1 k2 k3 k4
  exact bodyPost_ret (v := .tuple #[.agg #[.bool x, .int .i64 i, .slice a l c, .int .i64 i2, .slice a2 l2 c2], .int .i64 (rightE zs ss T)]) (by simp [results, Try.results9, go_sem, k0, k1, k2, k3, k4]) rfl ⟨⟨_, rfl, VF⟩, BF⟩
set_option maxRecDepth 100000 in
set_option maxHeartbeats 2000000 in
theorem oFree_any (za : Option Addr) (zl zc : Nat) (zs : List Int) (ta : Option Addr) (tl tc : Nat) (ss : List Stm) (ma : Option Addr) (ml mc : Nat) (T : Tms) (w : World) (hz : Ints w za zl zs) (hs : Stms w ta tl ss) (hT : TimesA w ma ml T) :
    Calls Try.prog 14 #[.agg #[.slice za zl zc, .slice ta tl tc], .slice ma ml mc] w fun e w' => (∃ v, e = .returned (.tuple #[v, .int .i64 (rightE zs ss T)]) ∧ FindV zs ss T true w' v) ∧ Below w.heap.size w w' := by
  obtain ⟨W, hW⟩ : ∃ W, W = (w.alloc (.cells #[.slice za zl zc, .slice ta tl tc] 25)).alloc (.cells #[.bool false, .int .i64 0, .slice none 0 0, .int .i64 0, .slice none 0 0] 31) := ⟨_, rfl⟩
  have BW : Below w.heap.size w W := by rw [hW]; exact bl_on (bl_new _) (bl_new _)
  have N1 : NsBlk W w.heap.size za zl zc ta tl tc := by rw [hW]; exact (Below.heap_alloc _ _ _ (by simp)).trans (World.alloc_heap_new w _)
  have F1 : W.heap[w.heap.size + 1]? = some (.cells #[.bool false, .int .i64 0, .slice none 0 0, .int .i64 0, .slice none 0 0] 31 (0, 0)) := by
    rw [hW]
    have := World.alloc_heap_new (w.alloc (.cells #[.slice za zl zc, .slice ta tl tc] 25)) (.cells #[.bool false, .int .i64 0, .slice none 0 0, .int .i64 0, .slice none 0 0] 31)
    rw [World.size_alloc] at this
    exact this
  obtain ⟨n0, n1⟩ := N1.cells
  have zn := N1.lt
  have HC := hide (look_any true 36 (enters_of Try.func36 (by kernel_rfl) rfl) (fun u v W => by have := free1_any u v W; rw [cmpT_zero] at this; exact this) za zl zc zs ta tl tc ss ma ml mc T W (hz.below BW) (hs.below BW) (hT.below BW))
  have HW := hide hW
  have HBW := hide BW
  have HF := hide F1
  clear hz hs hT hW BW F1 N1
  go_enter Try.func14, Try.ntmps14
  go_wp2_with fail
  rw [← HW.out]
  refine HC.out.mono ?_
  rintro e w1 ⟨⟨v, rfl, hv⟩, hb⟩
  have HB1 := hide (bl_on HBW.out hb)
  have F2 := (hb.block _ (Array.getElem?_eq_some_iff.1 HF.out).1).trans HF.out
  obtain ⟨x, i, a, l, c, i2, a2, l2, c2, rfl, hv2⟩ := hv.put F2
  have RW5 := row5 (five (.bool false) (.int .i64 0) (.slice none 0 0) (.int .i64 0) (.slice none 0 0)) F2
  have HRW := hide RW5
  have HV2 := hide hv2
  have f0 := RW5.cell (i := 0) (by omega)
  have g0 := RW5.frozen 0
  have f1 := RW5.cell (i := 1) (by omega)
  have g1 := RW5.frozen 1
  have f2 := RW5.cell (i := 2) (by omega)
  have g2 := RW5.frozen 2
  have f3 := RW5.cell (i := 3) (by omega)
  have g3 := RW5.frozen 3
  have f4 := RW5.cell (i := 4) (by omega)
  have g4 := RW5.frozen 4
  simp only [five] at f0 f1 f2 f3 f4
  have zf := (Array.getElem?_eq_some_iff.1 F2).1
  clear hb n0 n1 zn F2 hv hv2 RW5
  go_wp2_with fail
  have RF := set5 HRW.out (five (.bool x) (.int .i64 i) (.slice a l c) (.int .i64 i2) (.slice a2 l2 c2))
  have BF := below5 HB1.out (b := w.heap.size + 1) (by omega) (five (.bool x) (.int .i64 i) (.slice a l c) (.int .i64 i2) (.slice a2 l2 c2))
  have VF := HV2.out
  have hput : ((((w1.setCell ⟨w.heap.size + 1, 0, none⟩ (.bool x)).setCell ⟨w.heap.size + 1, 1, none⟩ (.int .i64 i)).setCell ⟨w.heap.size + 1, 2, none⟩ (.slice a l c)).setCell ⟨w.heap.size + 1, 3, none⟩ (.int .i64 i2)).setCell ⟨w.heap.size + 1, 4, none⟩ (.slice a2 l2 c2) = put5 w1 (w.heap.size + 1) (five (.bool x) (.int .i64 i) (.slice a l c) (.int .i64 i2) (.slice a2 l2 c2)) := rfl
  rw [hput]
  clear hput HV2 HRW
  generalize put5 w1 (w.heap.size + 1) (five (.bool x) (.int .i64 i) (.slice a l c) (.int .i64 i2) (.slice a2 l2 c2)) = wf at RF BF VF ⊢
  have k0 := RF.cell (i := 0) (by omega)
  have k1 := RF.cell (i := 1) (by omega)
  have k2 := RF.cell (i := 2) (by omega)
  have k3 := RF.cell (i := 3) (by omega)
  have k4 := RF.cell (i := 4) (by omega)
  simp only [five] at k0 k1 k2 k3 k4
  exact bodyPost_ret (v := .tuple #[.agg #[.bool x, .int .i64 i, .slice a l c, .int .i64 i2, .slice a2 l2 c2], .int .i64 (rightE zs ss T)]) (by simp [results, Try.results14, go_sem, k0, k1, k2, k3, k4]) rfl ⟨⟨_, rfl, VF⟩, BF⟩
end Go.Proofs.Ytkbdnhchlkafnaa.V
