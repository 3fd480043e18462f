/-
  CoreRuns: the law.
-/
import Derived.Test.YtoabffmiedbkkaaGreatRJ44
import Derived.Test.YtoabffmiedbkkaaGreatRJ50
import Derived.Test.YtoabffmiedbkkaaGreatRJ14
import Derived.Test.YtoabffmiedbkkaaGreatRJ10
namespace Go.Proofs.YtoabffmiedbkkaaGreat.V
set_option maxRecDepth 20000
open Go Go.RowKit
set_option linter.unusedVariables false
set_option linter.unusedSimpArgs false

set_option maxRecDepth 100000 in
set_option maxHeartbeats 8000000 in
theorem coreRuns_walk (c : CV) (mv mk : List In) (xa : Option Addr) (xl xc : Nat) (ms : List Int) (ya : Option Addr) (yl yc : Nat) (ps : List Int) (w : World) (hm : Inss w c.ma c.ml mv) (hk : Inss w c.ka c.kl mk) (hmc : c.ml ≤ c.mc) (hkc : c.kl ≤ c.kc) (hvm : VOk mv) (hvk : VOk mk) (hx : Ints w xa xl ms) (hy : Ints w ya yl ps) (hyb : yl * 8 ≤ 140737488355328) :
    Calls Tryz.prog 3 #[c.v, .slice xa xl xc, .slice ya yl yc] w fun e w' => e = .returned (.bool true) ∧ Below w.heap.size w w' := by
  obtain ⟨W, hW⟩ : ∃ W, W = w.alloc (.cells #[.int .i64 c.pad, .int .i64 c.mem, .slice c.ma c.ml c.mc, .slice c.ka c.kl c.kc] 24) := ⟨_, rfl⟩
  obtain ⟨cb, hcb⟩ : ∃ cb, cb = w.heap.size := ⟨_, rfl⟩
  have hb : Below w.heap.size w W := by rw [hW]; exact bl_new _
  have hC : CBlk W cb c := by rw [hW, hcb]; exact CBlk.new w c
  have HR1 := hide (fun (V : World) (hV : Below w.heap.size w V) => run_any c mv mk xa xl xc ms ya yl yc ps V (hm.below hV) (hk.below hV) hvm hvk (hx.below hV) (hy.below hV) hyb)
  have HR2 := hide (fun (V : World) (hV : Below w.heap.size w V) => rRun_any c mv mk xa xl xc ms ya yl yc ps V (hm.below hV) (hk.below hV) hmc hkc hvm hvk (hx.below hV) (hy.below hV))
  have HW1 := hide (fun (V : World) (hV : Below w.heap.size w V) => coWrong_any c mv mk V (hm.below hV) (hk.below hV))
  have HW2 := hide (fun (V : World) (hV : Below w.heap.size w V) => rCoWrong_any c mv mk V (hm.below hV) (hk.below hV))
  obtain ⟨RE, hRE⟩ : ∃ RE, RE = runE c.pad c.mem mv mk ps ms := ⟨_, rfl⟩
  obtain ⟨RL, hRL⟩ : ∃ RL, RL = runL c.pad c.mem mv mk ps ms := ⟨_, rfl⟩
  obtain ⟨E, hE⟩ : ∃ E, E = codeE c.pad c.mem mv mk := ⟨_, rfl⟩
  simp only [← hRE, ← hRL, ← hE] at HR1 HR2 HW1 HW2
  have HW := hide hW
  have HB := hide hb
  have HC := hide hC
  have HCB := hide hcb
  obtain ⟨⟨c0, c1, c2, c3⟩, zc⟩ := hC.cells
  clear hW hb hC hcb hm hk hmc hkc hvm hvk hx hy hyb hRE hRL hE
  obtain ⟨pad, mem, ma, ml, mc, ka, kl, kc⟩ := c
  unfold CV.v at HR1 HR2 HW1 HW2 ⊢
  simp only at *
  go_enter Tryz.func3, Tryz.ntmps3
  go_upto_region 1 with fail
  rw [← HW.out, ← HCB.out]
  go_upto_region 2 with (go_at_call 5; refine (HR1.out W HB.out).mono ?_; rintro e w4 ⟨⟨a4, n4, k4, rfl, hI4, hk4⟩, hb4⟩; have HI4 := hide hI4; have HB4 := hide (bl_on HB.out hb4); have HC4 := hide (HC.out.below hb4); clear hI4 hb4 c0 c1 c2 c3 zc)
  obtain ⟨⟨c0, c1, c2, c3⟩, zc⟩ := HC4.out.cells
  simp only at c0 c1 c2 c3
  go_upto_region 3 with (go_at_call 6; refine (HR2.out w4 HB4.out).mono ?_; rintro e w5 ⟨⟨a5, n5, k5, rfl, hI5, hk5⟩, hb5⟩; have HI5 := hide hI5; have HI45 := hide (HI4.out.below hb5); have HB5 := hide (bl_on HB4.out hb5); have HC5 := hide (HC4.out.below hb5); clear hI5 hb5 c0 c1 c2 c3 zc)
  obtain ⟨⟨c0, c1, c2, c3⟩, zc⟩ := HC5.out.cells
  simp only at c0 c1 c2 c3
  refine region_madeG 15 18 [fIs (.slice a4 n4 k4), fIs (.slice a5 n5 k5), fIs (.bool true), fIs (.bool true), fIs (.int .i64 RE), fIs (.int .i64 RE), fIs (.bool true), fIs (.bool true), fIs (.bool true), fIs (.agg #[.int .i64 pad, .int .i64 mem, .slice ma ml mc, .slice ka kl kc]), fIs (.int .i64 E), fIs (.agg #[.int .i64 pad, .int .i64 mem, .slice ma ml mc, .slice ka kl kc]), fIs (.int .i64 E), fIs (.bool true), fIs (.bool true)] [none, none, none, some true, none, none, none, none, some true, none, none, none, none, none, none] [true, true, true, true, true, true, true, true, true, true, true, true, true, true, true] (by kernel_rfl) (by kernel_rfl) (by kernel_rfl) (fun ch p q w3 e h => by obtain ⟨t1, d1⟩ := p; obtain ⟨t2, d2⟩ := q; cases e; exact h) ⟨fIs_good _, fIs_good _, fIs_good _, fIs_good _, fIs_good _, fIs_good _, fIs_good _, fIs_good _, fIs_good _, fIs_good _, fIs_good _, fIs_good _, fIs_good _, fIs_good _, fIs_good _, trivial⟩ ⟨fun _ _ h => h, fun _ _ h => h, rfl⟩ ?mkA ?restA
  case mkA =>
    refine ⟨fun u wz hb hd => ?_, fun u wz hb hd => ?_, fun u wz hb hd => ?_, fun u wz hb hd => ?_, fun u wz hb hd => ?_, fun u wz hb hd => ?_, fun u wz hb hd => ?_, fun u wz hb hd => ?_, fun u wz hb hd => ?_, fun u wz hb hd => ?_, fun u wz hb hd => ?_, fun u wz hb hd => ?_, fun u wz hb hd => ?_, fun u wz hb hd => ?_, fun u wz hb hd => ?_, trivial⟩
    all_goals simp only [Act.put, List.setIfInBounds_toArray, List.set_cons_zero, List.set_cons_succ]
    · go_simp
      exact ⟨rfl, Below.refl _ _, fun h => by cases h⟩
    · go_simp
      exact ⟨rfl, Below.refl _ _, fun h => by cases h⟩
    · have e0 : u 0 = .slice a4 n4 k4 := hd 0 (by omega) (by kernel_rfl)
      have e1 : u 1 = .slice a5 n5 k5 := hd 1 (by omega) (by kernel_rfl)
      rw [e0, e1]
      go_simp
      refine (sameW13 a4 n4 k4 a5 n5 k5 RL wz (HI45.out.below hb) hk4 (HI5.out.below hb) hk5).mono ?_
      rintro e w2 ⟨rfl, hb2⟩
      exact ⟨rfl, hb2, fun h => by cases h⟩
    · have e2 : u 2 = .bool true := hd 2 (by omega) (by kernel_rfl)
      rw [e2]
      go_simp
      exact ⟨rfl, Below.refl _ _, fun h => by cases h⟩
    · go_simp
      exact ⟨rfl, Below.refl _ _, fun h => by cases h⟩
    · go_simp
      exact ⟨rfl, Below.refl _ _, fun h => by cases h⟩
    · have e4 : u 4 = .int .i64 RE := hd 4 (by omega) (by kernel_rfl)
      have e5 : u 5 = .int .i64 RE := hd 5 (by omega) (by kernel_rfl)
      rw [e4, e5]
      go_simp
      exact ⟨rfl, Below.refl _ _, fun h => by cases h⟩
    · have e3 : u 3 = .bool true := hd 3 (by omega) (by kernel_rfl)
      have e6 : u 6 = .bool true := hd 6 (by omega) (by kernel_rfl)
      rw [e3, e6]
      go_simp
      exact ⟨rfl, Below.refl _ _, fun h => by cases h⟩
    · have e7 : u 7 = .bool true := hd 7 (by omega) (by kernel_rfl)
      rw [e7]
      go_simp
      exact ⟨rfl, Below.refl _ _, fun h => by cases h⟩
    · have c0' := (hb.cell (p := ⟨cb, 0, none⟩) (lt_of_cell c0)).trans c0
      have c1' := (hb.cell (p := ⟨cb, 1, none⟩) (lt_of_cell c1)).trans c1
      have c2' := (hb.cell (p := ⟨cb, 2, none⟩) (lt_of_cell c2)).trans c2
      have c3' := (hb.cell (p := ⟨cb, 3, none⟩) (lt_of_cell c3)).trans c3
      have cz' : cb < wz.heap.size := Nat.lt_of_lt_of_le zc hb.size
      go_simp
      exact ⟨rfl, Below.refl _ _, fun h => by cases h⟩
    · have e9 : u 9 = .agg #[.int .i64 pad, .int .i64 mem, .slice ma ml mc, .slice ka kl kc] := hd 9 (by omega) (by kernel_rfl)
      rw [e9]
      go_simp
      refine (HW1.out wz (bl_on HB5.out hb)).mono ?_
      rintro e w2 ⟨rfl, hb2⟩
      exact ⟨rfl, hb2, fun h => by cases h⟩
    · have c0' := (hb.cell (p := ⟨cb, 0, none⟩) (lt_of_cell c0)).trans c0
      have c1' := (hb.cell (p := ⟨cb, 1, none⟩) (lt_of_cell c1)).trans c1
      have c2' := (hb.cell (p := ⟨cb, 2, none⟩) (lt_of_cell c2)).trans c2
      have c3' := (hb.cell (p := ⟨cb, 3, none⟩) (lt_of_cell c3)).trans c3
      have cz' : cb < wz.heap.size := Nat.lt_of_lt_of_le zc hb.size
      go_simp
      exact ⟨rfl, Below.refl _ _, fun h => by cases h⟩
    · have e11 : u 11 = .agg #[.int .i64 pad, .int .i64 mem, .slice ma ml mc, .slice ka kl kc] := hd 11 (by omega) (by kernel_rfl)
      rw [e11]
      go_simp
      refine (HW2.out wz (bl_on HB5.out hb)).mono ?_
      rintro e w2 ⟨rfl, hb2⟩
      exact ⟨rfl, hb2, fun h => by cases h⟩
    · have e10 : u 10 = .int .i64 E := hd 10 (by omega) (by kernel_rfl)
      have e12 : u 12 = .int .i64 E := hd 12 (by omega) (by kernel_rfl)
      rw [e10, e12]
      go_simp
      exact ⟨rfl, Below.refl _ _, fun h => by cases h⟩
    · have e8 : u 8 = .bool true := hd 8 (by omega) (by kernel_rfl)
      have e13 : u 13 = .bool true := hd 13 (by omega) (by kernel_rfl)
      rw [e8, e13]
      go_simp
      exact ⟨rfl, Below.refl _ _, fun h => by cases h⟩
  case restA =>
    intro u wz hb hf hp
    have f0 : u 0 = .slice a4 n4 k4 := hf 0 (by omega)
    have f1 : u 1 = .slice a5 n5 k5 := hf 1 (by omega)
    have f2 : u 2 = .bool true := hf 2 (by omega)
    have f3 : u 3 = .bool true := hf 3 (by omega)
    have f4 : u 4 = .int .i64 RE := hf 4 (by omega)
    have f5 : u 5 = .int .i64 RE := hf 5 (by omega)
    have f6 : u 6 = .bool true := hf 6 (by omega)
    have f7 : u 7 = .bool true := hf 7 (by omega)
    have f8 : u 8 = .bool true := hf 8 (by omega)
    have f9 : u 9 = .agg #[.int .i64 pad, .int .i64 mem, .slice ma ml mc, .slice ka kl kc] := hf 9 (by omega)
    have f10 : u 10 = .int .i64 E := hf 10 (by omega)
    have f11 : u 11 = .agg #[.int .i64 pad, .int .i64 mem, .slice ma ml mc, .slice ka kl kc] := hf 11 (by omega)
    have f12 : u 12 = .int .i64 E := hf 12 (by omega)
    have f13 : u 13 = .bool true := hf 13 (by omega)
    have f14 : u 14 = .bool true := hf 14 (by omega)
    refine UptoW.rest 1 15 (by rfl) (by kernel_rfl) ?_
    simp only [List.take, List.drop, putOps, Act.put, List.setIfInBounds_toArray, List.set_cons_zero, List.set_cons_succ, Nat.reduceAdd, f0, f1, f2, f3, f4, f5, f6, f7, f8, f9, f10, f11, f12, f13, f14]
    clear f0 f1 f2 f3 f4 f5 f6 f7 f8 f9 f10 f11 f12 f13 f14 hf hp
    have HBZ := hide (bl_on HB5.out hb)
    clear hb
    go_wp2_with fail
    go_ret
    exact ⟨rfl, HBZ.out⟩
end Go.Proofs.YtoabffmiedbkkaaGreat.V
