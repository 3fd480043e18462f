/-
  Contracts of core's leaves.
-/
import Derived.Test.YtoabffmiedbkkaaGreatRJ0
import Derived.Test.YtoabffmiedbkkaaGreatRJ3
import Derived.Test.YtoabffmiedbkkaaGreatRJ2
import Derived.BigRegion
import Derived.Deep.DeepCutAuto
namespace Go.Proofs.YtoabffmiedbkkaaGreat.V
set_option maxRecDepth 20000
open Go Go.RowKit
set_option linter.unusedVariables false

def Str.v (s : Str) : Value := .agg #[.int .i64 s.f, .int .i64 s.w]
structure Str.Sm (s : Str) : Prop where
  f : -1099511627776 ≤ s.f ∧ s.f ≤ 1099511627776
  w : 0 ≤ s.w ∧ s.w ≤ 1099511627776
theorem within_any (s : Str) (pad : Int) (hs : s.Sm) (w : World) : Calls Tryz.prog 46 #[.agg #[.int .i64 s.f, .int .i64 s.w], .int .i64 pad] w fun e w' => e = .returned (.bool (inBk s pad)) ∧ Below w.heap.size w w' := by
  have HB := hide (bl_new (w := w) (.cells #[.int .i64 s.f, .int .i64 s.w] 65))
  have hw1 : IntKind.i64.wrap (s.f + s.w) = s.f + s.w := by rw [IntKind.wrap_i64]; have := hs.f; have := hs.w; omega
  obtain ⟨R, hR⟩ : ∃ R, R = inBk s pad := ⟨_, rfl⟩
  rw [← hR]
  have HR := hide hR
  clear hR hs
  go_enter Tryz.func46, Tryz.ntmps46
  by_cases p1 : s.w = 0
  · have q1 : (s.w == 0) = true := by simpa using p1
    have hr : R = true := by rw [HR.out]; simp [inBk, p1]
    clear p1
    go_wp2
    go_ret
    exact ⟨by first | rfl | (rw [hr]; rfl), HB.out⟩
  · have q1 : (s.w == 0) = false := by simpa using p1
    by_cases p2 : 0 ≤ s.f
    · by_cases p3 : s.f + s.w ≤ pad
      · have hr : R = true := by rw [HR.out]; simp [inBk, p2, p3]
        clear p1
        go_wp2
        go_ret
        exact ⟨by first | rfl | (rw [hr]; rfl), HB.out⟩
      · have hr : R = false := by rw [HR.out]; simp [inBk, p1, p3]
        clear p1
        go_wp2
        go_ret
        exact ⟨by first | rfl | (rw [hr]; rfl), HB.out⟩
    · have hr : R = false := by rw [HR.out]; simp [inBk, p1, p2]
      clear p1
      go_wp2
      go_ret
      exact ⟨by first | rfl | (rw [hr]; rfl), HB.out⟩
def Tch.v (t : Tch) : Value := .agg #[.int .i64 t.r0.f, .int .i64 t.r0.w, .int .i64 t.r1.f, .int .i64 t.r1.w, .int .i64 t.r2.f, .int .i64 t.r2.w, .int .i64 t.wr.f, .int .i64 t.wr.w]
structure Tch.Sm (t : Tch) : Prop where
  r0 : t.r0.Sm
  r1 : t.r1.Sm
  r2 : t.r2.Sm
  wr : t.wr.Sm
theorem zS_sm : zS.Sm := ⟨by simp [zS], by simp [zS]⟩
def tAt (t : Tch) (k : Nat) : Str := if k = 0 then t.r0 else if k = 1 then t.r1 else t.r2
theorem blk8 {W : World} {g : Nat} {t : Tch} {ty : TypeId} (h : W.heap[g]? = some (.cells #[.int .i64 t.r0.f, .int .i64 t.r0.w, .int .i64 t.r1.f, .int .i64 t.r1.w, .int .i64 t.r2.f, .int .i64 t.r2.w, .int .i64 t.wr.f, .int .i64 t.wr.w] ty (0, 0))) : (W.cell? ⟨g, 0, none⟩ = some (.int .i64 t.r0.f) ∧ W.cell? ⟨g, 1, none⟩ = some (.int .i64 t.r0.w) ∧ W.cell? ⟨g, 2, none⟩ = some (.int .i64 t.r1.f) ∧ W.cell? ⟨g, 3, none⟩ = some (.int .i64 t.r1.w) ∧ W.cell? ⟨g, 4, none⟩ = some (.int .i64 t.r2.f) ∧ W.cell? ⟨g, 5, none⟩ = some (.int .i64 t.r2.w) ∧ W.cell? ⟨g, 6, none⟩ = some (.int .i64 t.wr.f) ∧ W.cell? ⟨g, 7, none⟩ = some (.int .i64 t.wr.w)) ∧ g < W.heap.size := by
  refine ⟨⟨?_, ?_, ?_, ?_, ?_, ?_, ?_, ?_⟩, (Array.getElem?_eq_some_iff.1 h).1⟩ <;> simp [World.cell?, h]
theorem idx3_0 (t : Tch) (w : World) : Sem.run Tryz.prog (Instr.index 66 (.agg #[.int .i64 t.r0.f, .int .i64 t.r0.w, .int .i64 t.r1.f, .int .i64 t.r1.w, .int .i64 t.r2.f, .int .i64 t.r2.w]) (.int .i64 0)) w = .ok (.agg #[.int .i64 t.r0.f, .int .i64 t.r0.w]) w := by kernel_rfl
theorem idx3_1 (t : Tch) (w : World) : Sem.run Tryz.prog (Instr.index 66 (.agg #[.int .i64 t.r0.f, .int .i64 t.r0.w, .int .i64 t.r1.f, .int .i64 t.r1.w, .int .i64 t.r2.f, .int .i64 t.r2.w]) (.int .i64 1)) w = .ok (.agg #[.int .i64 t.r1.f, .int .i64 t.r1.w]) w := by kernel_rfl
theorem idx3_2 (t : Tch) (w : World) : Sem.run Tryz.prog (Instr.index 66 (.agg #[.int .i64 t.r0.f, .int .i64 t.r0.w, .int .i64 t.r1.f, .int .i64 t.r1.w, .int .i64 t.r2.f, .int .i64 t.r2.w]) (.int .i64 2)) w = .ok (.agg #[.int .i64 t.r2.f, .int .i64 t.r2.w]) w := by kernel_rfl
set_option maxRecDepth 100000 in
set_option maxHeartbeats 2000000 in
theorem tWithin_any (t : Tch) (pad : Int) (ht : t.Sm) (w : World) : Calls Tryz.prog 31 #[t.v, .int .i64 pad] w fun e w' => e = .returned (.bool (tchIn t pad)) ∧ Below w.heap.size w w' := by
  have HT := hide ht
  clear ht
  obtain ⟨W, hW⟩ : ∃ W, W = w.alloc (.cells #[.int .i64 t.r0.f, .int .i64 t.r0.w, .int .i64 t.r1.f, .int .i64 t.r1.w, .int .i64 t.r2.f, .int .i64 t.r2.w, .int .i64 t.wr.f, .int .i64 t.wr.w] 68) := ⟨_, rfl⟩
  have hb : Below w.heap.size w W := by rw [hW]; exact bl_new _
  have hblk : W.heap[w.heap.size]? = some (.cells #[.int .i64 t.r0.f, .int .i64 t.r0.w, .int .i64 t.r1.f, .int .i64 t.r1.w, .int .i64 t.r2.f, .int .i64 t.r2.w, .int .i64 t.wr.f, .int .i64 t.wr.w] 68 (0, 0)) := by rw [hW]; exact World.alloc_heap_new _ _
  have HW := hide hW
  have HB := hide hb
  have HBK := hide hblk
  obtain ⟨⟨c0, c1, c2, c3, c4, c5, c6, c7⟩, zc⟩ := blk8 hblk
  obtain ⟨R, hR⟩ : ∃ R, R = tchIn t pad := ⟨_, rfl⟩
  rw [← hR]
  have HR := hide hR
  clear hW hb hblk hR
  unfold Tch.v
  go_enter Tryz.func31, Tryz.ntmps31
  go_upto_region 1 with fail
  rw [← HW.out]
  go_wp2_with fail
  go_loopw [9] (fun v9 wr => ∃ k : Nat, k ≤ 3 ∧ v9 = .int .i64 k ∧ (∀ j, j < k → inBk (tAt t j) pad = true) ∧ Below W.heap.size W wr) (fun v9 _ => 3 - (intOf v9).toNat)
  case atStart => exact ⟨0, by omega, rfl, fun j hj => by omega, Below.refl _ _⟩
  case round =>
    obtain ⟨k, hk, rfl, hin, hbr⟩ := hrel
    have HIN := hide hin
    have HBR := hide hbr
    clear hin hbr c0 c1 c2 c3 c4 c5 c6 c7 zc
    obtain rfl | rfl | rfl | rfl : k = 0 ∨ k = 1 ∨ k = 2 ∨ k = 3 := by omega
    · have hix := idx3_0 t
      go_wp2_with fail
      refine (within_any t.r0 pad HT.out.r0 _).mono ?_
      rintro e w2 ⟨rfl, hb2⟩
      have HB2 := hide (bl_on (bl_on HBR.out (bl_new _)) hb2)
      clear hb2
      cases hx : inBk t.r0 pad
      · have hr : R = false := by rw [HR.out]; simp [tchIn, hx]
        go_wp2_with fail
        go_ret
        exact ⟨by rw [hr]; rfl, bl_on HB.out HB2.out⟩
      · have HX := hide hx
        clear hx
        go_wp2_with fail
        go_roundw
        case rel => exact ⟨1, by omega, by go_num, fun j hj => by
          by_cases e : j = 0
          · subst e; exact HX.out
          · exact HIN.out j (by omega), HB2.out⟩
        case measure => simp [intOf]
    · have hix := idx3_1 t
      go_wp2_with fail
      refine (within_any t.r1 pad HT.out.r1 _).mono ?_
      rintro e w2 ⟨rfl, hb2⟩
      have HB2 := hide (bl_on (bl_on HBR.out (bl_new _)) hb2)
      clear hb2
      cases hx : inBk t.r1 pad
      · have hr : R = false := by rw [HR.out]; simp [tchIn, hx]
        go_wp2_with fail
        go_ret
        exact ⟨by rw [hr]; rfl, bl_on HB.out HB2.out⟩
      · have HX := hide hx
        clear hx
        go_wp2_with fail
        go_roundw
        case rel => exact ⟨2, by omega, by go_num, fun j hj => by
          by_cases e : j = 1
          · subst e; exact HX.out
          · exact HIN.out j (by omega), HB2.out⟩
        case measure => simp [intOf]
    · have hix := idx3_2 t
      go_wp2_with fail
      refine (within_any t.r2 pad HT.out.r2 _).mono ?_
      rintro e w2 ⟨rfl, hb2⟩
      have HB2 := hide (bl_on (bl_on HBR.out (bl_new _)) hb2)
      clear hb2
      cases hx : inBk t.r2 pad
      · have hr : R = false := by rw [HR.out]; simp [tchIn, hx]
        go_wp2_with fail
        go_ret
        exact ⟨by rw [hr]; rfl, bl_on HB.out HB2.out⟩
      · have HX := hide hx
        clear hx
        go_wp2_with fail
        go_roundw
        case rel => exact ⟨3, by omega, by go_num, fun j hj => by
          by_cases e : j = 2
          · subst e; exact HX.out
          · exact HIN.out j (by omega), HB2.out⟩
        case measure => simp [intOf]
    · have hblk := (HBR.out.block _ (Array.getElem?_eq_some_iff.1 HBK.out).1).trans HBK.out
      obtain ⟨⟨c0, c1, c2, c3, c4, c5, c6, c7⟩, zc⟩ := blk8 hblk
      have hr : R = inBk t.wr pad := by
        have h0 : inBk t.r0 pad = true := HIN.out 0 (by omega)
        have h1 : inBk t.r1 pad = true := HIN.out 1 (by omega)
        have h2 : inBk t.r2 pad = true := HIN.out 2 (by omega)
        rw [HR.out]
        simp [tchIn, h0, h1, h2]
      clear hblk
      go_wp2_with fail
      refine (within_any t.wr pad HT.out.wr _).mono ?_
      rintro e w2 ⟨rfl, hb2⟩
      have HB2 := hide (bl_on HBR.out hb2)
      clear hb2
      go_wp2_with fail
      go_ret
      exact ⟨by rw [hr]; rfl, bl_on HB.out HB2.out⟩
end Go.Proofs.YtoabffmiedbkkaaGreat.V
