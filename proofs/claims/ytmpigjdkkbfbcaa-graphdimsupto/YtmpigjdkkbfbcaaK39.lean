/-
  The law's walk: GraphDims.
-/
import Derived.Test.YtmpigjdkkbfbcaaK35
import Derived.Test.YtmpigjdkkbfbcaaK38
namespace Go.Proofs.Ytmpigjdkkbfbcaa.V
set_option maxRecDepth 20000
open Go.RowKit
set_option linter.unusedVariables false

theorem gWrong_any (A : Option Addr) (n cap : Nat) (l : List Nd) (oa : Option Addr) (ol oc : Nat) (outs : List Int) (w : World) (h : Nds w A n l) (ho : Ints w oa ol outs) :
    Calls Try.prog 7 #[.agg #[.slice A n cap, .slice oa ol oc]] w fun e w' => e = .returned (.int .i64 (grP l outs).2) ∧ Below w.heap.size w w' := by
  have HB0 := hide (bl_new (w := w) (.cells #[.slice A n cap, .slice oa ol oc] 25))
  obtain ⟨g0, g1⟩ := GrAt.new w A n cap oa ol oc
  have HD := hide (gDims_any A n cap l oa ol oc outs _ (h.below HB0.out) (ho.below HB0.out))
  clear h ho
  go_enter Try.func7, Try.ntmps7
  go_wp2_with (go_at_call 4; refine HD.out.mono ?_; rintro e w1 ⟨⟨A4, n4, c4, rfl, hc4, hl4⟩, hb1⟩; have HB1 := hide (bl_on HB0.out hb1); clear hb1 hl4)
  go_ret
  exact ⟨rfl, HB1.out⟩
theorem rGWrong_any (A : Option Addr) (n cap : Nat) (l : List Nd) (oa : Option Addr) (ol oc : Nat) (outs : List Int) (w : World) (h : Nds w A n l) (ho : Ints w oa ol outs) :
    Calls Try.prog 8 #[.agg #[.slice A n cap, .slice oa ol oc]] w fun e w' => e = .returned (.int .i64 (grP l outs).2) ∧ Below w.heap.size w w' := by
  have HB0 := hide (bl_new (w := w) (.cells #[.slice A n cap, .slice oa ol oc] 25))
  obtain ⟨g0, g1⟩ := GrAt.new w A n cap oa ol oc
  have HD := hide (rGDims_any A n cap l oa ol oc outs _ (h.below HB0.out) (ho.below HB0.out))
  clear h ho
  go_enter Try.func8, Try.ntmps8
  go_wp2_with (go_at_call 5; refine HD.out.mono ?_; rintro e w1 ⟨⟨A4, n4, c4, rfl, hc4, hl4⟩, hb1⟩; have HB1 := hide (bl_on HB0.out hb1); clear hb1 hl4)
  go_ret
  exact ⟨rfl, HB1.out⟩

set_option maxHeartbeats 2000000 in
theorem gSameDims_any (A : Option Addr) (n cap : Nat) (A' : Option Addr) (cap' : Nat) (xss : List (List Int)) (w : World) (h : Lsts w A n xss) (h' : Lsts w A' n xss) :
    Calls Try.prog 6 #[.slice A n cap, .slice A' n cap'] w fun e w' => e = .returned (.bool true) ∧ Below w.heap.size w w' := by
  have H := hide h
  have H' := hide h'
  have hm := h.2.1
  clear h h'
  go_enter Try.func6, Try.ntmps6
  go_wp2
  go_loopw [13] (fun i wr => ∃ k : Nat, k ≤ n ∧ i = .int .i64 k ∧ ∃ m, wr = w.drewN m) (fun i _ => n - (intOf i).toNat)
  case atStart => exact ⟨0, Nat.zero_le _, rfl, 0, rfl⟩
  case round =>
    obtain ⟨k, hk, rfl, m, hwr⟩ := hrel
    have HBr : Hid (Below w.heap.size w wr) := by rw [hwr]; exact below_drewN _ _
    have HWR := hide hwr
    clear hwr
    by_cases hlt : k < n
    · obtain ⟨b, off, rfl, hc⟩ := (H.out.below HBr.out).at (by omega)
      obtain ⟨b', off', rfl, hc'⟩ := (H'.out.below HBr.out).at (by omega)
      obtain ⟨X, p, c, hX, hl⟩ := hc k hlt
      obtain ⟨X', p', c', hX', hl'⟩ := hc' k hlt
      have HS := hide (fun j => sameList_any X p c _ X' p' c' _ (wr.drewN j) (hl.1.below (below_drewN _ _)) (hl'.1.below (below_drewN _ _)))
      simp only [decide_true] at HS
      have i1 : (k : Int) < (n : Int) := by omega
      clear hc hc' hl hl'
      go_wp2
      go_quiet ((go_at_call 17; exact Calls.quiet_of (HS.out _)))
      go_wp2
      go_roundw
      case rel => exact ⟨k + 1, by omega, by go_num, _, by rw [HWR.out, World.drewN_drewN]⟩
      case measure => simp [intOf]; omega
    · go_wp2
      go_ret
      exact ⟨rfl, HBr.out⟩

set_option maxRecDepth 100000 in
set_option maxHeartbeats 8000000 in
theorem graphDims_walk (A : Option Addr) (n cap : Nat) (l : List Nd) (oa : Option Addr) (ol oc : Nat) (outs : List Int) (w : World) (h : Nds w A n l) (ho : Ints w oa ol outs) (hcap : n ≤ cap) (hc63 : cap ≤ 9223372036854775807) :
    Calls Try.prog 3 #[.agg #[.slice A n cap, .slice oa ol oc]] w fun e w' => e = .returned (.bool true) ∧ Below w.heap.size w w' := by
  have HB0 := hide (bl_new (w := w) (.cells #[.slice A n cap, .slice oa ol oc] 25))
  have HG0 := hide (GrAt.new w A n cap oa ol oc)
  obtain ⟨g0, g1⟩ := HG0.out
  have HD := hide (fun W (hW : Below w.heap.size w W) => gDims_any A n cap l oa ol oc outs W (h.below hW) (ho.below hW))
  have HRD := hide (fun W (hW : Below w.heap.size w W) => rGDims_any A n cap l oa ol oc outs W (h.below hW) (ho.below hW))
  have HW := hide (fun W (hW : Below w.heap.size w W) => gWrong_any A n cap l oa ol oc outs W (h.below hW) (ho.below hW))
  have HRW := hide (fun W (hW : Below w.heap.size w W) => rGWrong_any A n cap l oa ol oc outs W (h.below hW) (ho.below hW))
  have HP := hide (fun W (hW : Below w.heap.size w W) => params_any A n cap l oa ol oc W (h.below hW))
  have HRP := hide (fun W (hW : Below w.heap.size w W) => rParams_any A n cap l oa ol oc W (h.below hW))
  have HWT := hide (fun W (hW : Below w.heap.size w W) => gWeight_any A n cap l oa ol oc outs W (h.below hW) (ho.below hW) hcap hc63)
  have HRWT := hide (fun W (hW : Below w.heap.size w W) => rGWeight_any A n cap l oa ol oc outs W (h.below hW) (ho.below hW))
  obtain ⟨G, hG⟩ : ∃ G, G = grP l outs := ⟨_, rfl⟩
  obtain ⟨Q, hQ⟩ : ∃ Q, Q = grW l outs := ⟨_, rfl⟩
  obtain ⟨P, hP⟩ : ∃ P, P = parN l := ⟨_, rfl⟩
  rw [← hG] at HD HRD HW HRW
  rw [← hQ] at HWT HRWT
  rw [← hP] at HP HRP
  obtain ⟨D, E⟩ := G
  obtain ⟨V, F⟩ := Q
  simp only at HD HRD HW HRW HWT HRWT
  clear h ho hG hQ hP hcap hc63
  go_enter Try.func3, Try.ntmps3
  go_wp2_with fail
  refine (HD.out _ HB0.out).mono ?_
  rintro e w1 ⟨⟨A1, n1, c1, rfl, hc1, hl1⟩, hb1⟩
  have HB1 := hide (bl_on HB0.out hb1)
  have HG1 := hide (HG0.out.below (by simpa using hb1))
  have hs1 : w.heap.size < w1.heap.size := by have := hb1.size; simp at this; omega
  have HL1 := hide hl1
  clear hb1 g0 g1 hl1
  obtain ⟨g0, g1⟩ := HG1.out
  go_wp2_with fail
  refine (HRD.out _ HB1.out).mono ?_
  rintro e w2 ⟨⟨A2, n2, c2, rfl, hc2, hl2⟩, hb2⟩
  obtain rfl : n1 = n2 := by rw [← HL1.out.1, ← hl2.1]
  have HB2 := hide (bl_on HB1.out hb2)
  have HG2 := hide (HG1.out.below (hb2.mono hs1))
  have HSD := hide (fun W (hW : Below w2.heap.size w2 W) => gSameDims_any A1 n1 c1 A2 c2 D W ((HL1.out.below hb2).below hW) (hl2.below hW))
  have hs2 := hb2.size
  clear hb2 g0 g1 hl2 HL1
  obtain ⟨k0, k1⟩ := HG2.out
  simp only
  go_upto_region 3 with fail
  refine region_madeG 23 25 [fIs (.slice A1 n1 c1), fIs (.slice A2 n1 c2), fIs (.bool true), fIs (.bool false), fIs (.bool false), fIs (.int .i64 E), fIs (.int .i64 E), fIs (.bool false), fIs (.bool false), fIs (.bool false), fIs (.agg #[.slice A n cap, .slice oa ol oc]), fIs (.int .i64 E), fIs (.agg #[.slice A n cap, .slice oa ol oc]), fIs (.int .i64 E), fIs (.bool false), fIs (.bool false), fIs (.bool false), fIs (.agg #[.slice A n cap, .slice oa ol oc]), fIs (.int .i64 P), fIs (.agg #[.slice A n cap, .slice oa ol oc]), fIs (.int .i64 P), fIs (.bool false), fIs (.bool false)] [none, none, none, none, some false, none, none, none, none, some false, none, none, none, none, none, none, some false, none, none, none, none, none, none] [true, true, true, true, true, true, true, true, true, true, true, true, true, true, true, true, true, true, true, true, true, true, true] (by kernel_rfl) (by kernel_rfl) (by kernel_rfl) (fun ch p q w3 e h => by obtain ⟨t1, d1⟩ := p; obtain ⟨t2, d2⟩ := q; cases e; exact h) ⟨fIs_good _, fIs_good _, fIs_good _, fIs_good _, fIs_good _, fIs_good _, fIs_good _, fIs_good _, fIs_good _, fIs_good _, fIs_good _, fIs_good _, fIs_good _, fIs_good _, fIs_good _, fIs_good _, fIs_good _, fIs_good _, fIs_good _, fIs_good _, fIs_good _, fIs_good _, fIs_good _, trivial⟩ ⟨fun _ _ h => h, fun _ _ h => h, fun _ _ h => h, rfl⟩ ?mkQ ?restQ
  case mkQ =>
    refine ⟨fun u wz hb hd => ?_, fun u wz hb hd => ?_, fun u wz hb hd => ?_, fun u wz hb hd => ?_, fun u wz hb hd => ?_, fun u wz hb hd => ?_, fun u wz hb hd => ?_, fun u wz hb hd => ?_, fun u wz hb hd => ?_, fun u wz hb hd => ?_, fun u wz hb hd => ?_, fun u wz hb hd => ?_, fun u wz hb hd => ?_, fun u wz hb hd => ?_, fun u wz hb hd => ?_, fun u wz hb hd => ?_, fun u wz hb hd => ?_, fun u wz hb hd => ?_, fun u wz hb hd => ?_, fun u wz hb hd => ?_, fun u wz hb hd => ?_, fun u wz hb hd => ?_, fun u wz hb hd => ?_, trivial⟩
    all_goals simp only [Act.put, List.setIfInBounds_toArray, List.set_cons_zero, List.set_cons_succ]
    · go_simp
      exact ⟨rfl, Below.refl _ _, fun h => by cases h⟩
    · go_simp
      exact ⟨rfl, Below.refl _ _, fun h => by cases h⟩
    · have e0 : u 0 = .slice A1 n1 c1 := hd 0 (by omega) (by kernel_rfl)
      have e1 : u 1 = .slice A2 n1 c2 := hd 1 (by omega) (by kernel_rfl)
      rw [e0, e1]
      go_simp
      refine (HSD.out wz hb).mono ?_
      rintro e w9 ⟨rfl, hb9⟩
      exact ⟨rfl, hb9, fun h => by cases h⟩
    · have e2 : u 2 = .bool true := hd 2 (by omega) (by kernel_rfl)
      rw [e2]
      go_simp
      exact ⟨rfl, Below.refl _ _, fun h => by cases h⟩
    · have e3 : u 3 = .bool false := hd 3 (by omega) (by kernel_rfl)
      rw [e3]
      go_simp
      exact ⟨rfl, Below.refl _ _, fun h => by cases h⟩
    · go_simp
      exact ⟨rfl, Below.refl _ _, fun h => by cases h⟩
    · go_simp
      exact ⟨rfl, Below.refl _ _, fun h => by cases h⟩
    · have e5 : u 5 = .int .i64 E := hd 5 (by omega) (by kernel_rfl)
      have e6 : u 6 = .int .i64 E := hd 6 (by omega) (by kernel_rfl)
      rw [e5, e6]
      go_simp
      exact ⟨rfl, Below.refl _ _, fun h => by cases h⟩
    · have e4 : u 4 = .bool false := hd 4 (by omega) (by kernel_rfl)
      have e7 : u 7 = .bool false := hd 7 (by omega) (by kernel_rfl)
      rw [e4, e7]
      go_simp
      exact ⟨rfl, Below.refl _ _, fun h => by cases h⟩
    · have e8 : u 8 = .bool false := hd 8 (by omega) (by kernel_rfl)
      rw [e8]
      go_simp
      exact ⟨rfl, Below.refl _ _, fun h => by cases h⟩
    · have k0' := (hb.cell (p := ⟨w.heap.size, 0, none⟩) (lt_of_cell k0)).trans k0
      have k1' := (hb.cell (p := ⟨w.heap.size, 1, none⟩) (lt_of_cell k1)).trans k1
      go_simp
      exact ⟨rfl, Below.refl _ _, fun h => by cases h⟩
    · have e10 : u 10 = .agg #[.slice A n cap, .slice oa ol oc] := hd 10 (by omega) (by kernel_rfl)
      rw [e10]
      go_simp
      refine (HW.out wz (bl_on HB2.out hb)).mono ?_
      rintro e w9 ⟨rfl, hb9⟩
      exact ⟨rfl, hb9, fun h => by cases h⟩
    · have k0' := (hb.cell (p := ⟨w.heap.size, 0, none⟩) (lt_of_cell k0)).trans k0
      have k1' := (hb.cell (p := ⟨w.heap.size, 1, none⟩) (lt_of_cell k1)).trans k1
      go_simp
      exact ⟨rfl, Below.refl _ _, fun h => by cases h⟩
    · have e12 : u 12 = .agg #[.slice A n cap, .slice oa ol oc] := hd 12 (by omega) (by kernel_rfl)
      rw [e12]
      go_simp
      refine (HRW.out wz (bl_on HB2.out hb)).mono ?_
      rintro e w9 ⟨rfl, hb9⟩
      exact ⟨rfl, hb9, fun h => by cases h⟩
    · have e11 : u 11 = .int .i64 E := hd 11 (by omega) (by kernel_rfl)
      have e13 : u 13 = .int .i64 E := hd 13 (by omega) (by kernel_rfl)
      rw [e11, e13]
      go_simp
      exact ⟨rfl, Below.refl _ _, fun h => by cases h⟩
    · have e9 : u 9 = .bool false := hd 9 (by omega) (by kernel_rfl)
      have e14 : u 14 = .bool false := hd 14 (by omega) (by kernel_rfl)
      rw [e9, e14]
      go_simp
      exact ⟨rfl, Below.refl _ _, fun h => by cases h⟩
    · have e15 : u 15 = .bool false := hd 15 (by omega) (by kernel_rfl)
      rw [e15]
      go_simp
      exact ⟨rfl, Below.refl _ _, fun h => by cases h⟩
    · have k0' := (hb.cell (p := ⟨w.heap.size, 0, none⟩) (lt_of_cell k0)).trans k0
      have k1' := (hb.cell (p := ⟨w.heap.size, 1, none⟩) (lt_of_cell k1)).trans k1
      go_simp
      exact ⟨rfl, Below.refl _ _, fun h => by cases h⟩
    · have e17 : u 17 = .agg #[.slice A n cap, .slice oa ol oc] := hd 17 (by omega) (by kernel_rfl)
      rw [e17]
      go_simp
      refine (HP.out wz (bl_on HB2.out hb)).mono ?_
      rintro e w9 ⟨rfl, hb9⟩
      exact ⟨rfl, hb9, fun h => by cases h⟩
    · have k0' := (hb.cell (p := ⟨w.heap.size, 0, none⟩) (lt_of_cell k0)).trans k0
      have k1' := (hb.cell (p := ⟨w.heap.size, 1, none⟩) (lt_of_cell k1)).trans k1
      go_simp
      exact ⟨rfl, Below.refl _ _, fun h => by cases h⟩
    · have e19 : u 19 = .agg #[.slice A n cap, .slice oa ol oc] := hd 19 (by omega) (by kernel_rfl)
      rw [e19]
      go_simp
      refine (HRP.out wz (bl_on HB2.out hb)).mono ?_
      rintro e w9 ⟨rfl, hb9⟩
      exact ⟨rfl, hb9, fun h => by cases h⟩
    · have e18 : u 18 = .int .i64 P := hd 18 (by omega) (by kernel_rfl)
      have e20 : u 20 = .int .i64 P := hd 20 (by omega) (by kernel_rfl)
      rw [e18, e20]
      go_simp
      exact ⟨rfl, Below.refl _ _, fun h => by cases h⟩
    · have e16 : u 16 = .bool false := hd 16 (by omega) (by kernel_rfl)
      have e21 : u 21 = .bool false := hd 21 (by omega) (by kernel_rfl)
      rw [e16, e21]
      go_simp
      exact ⟨rfl, Below.refl _ _, fun h => by cases h⟩
  case restQ =>
    intro u wz hb hf hp
    have f0 : u 0 = .slice A1 n1 c1 := hf 0 (by omega)
    have f1 : u 1 = .slice A2 n1 c2 := hf 1 (by omega)
    have f2 : u 2 = .bool true := hf 2 (by omega)
    have f3 : u 3 = .bool false := hf 3 (by omega)
    have f4 : u 4 = .bool false := hf 4 (by omega)
    have f5 : u 5 = .int .i64 E := hf 5 (by omega)
    have f6 : u 6 = .int .i64 E := hf 6 (by omega)
    have f7 : u 7 = .bool false := hf 7 (by omega)
    have f8 : u 8 = .bool false := hf 8 (by omega)
    have f9 : u 9 = .bool false := hf 9 (by omega)
    have f10 : u 10 = .agg #[.slice A n cap, .slice oa ol oc] := hf 10 (by omega)
    have f11 : u 11 = .int .i64 E := hf 11 (by omega)
    have f12 : u 12 = .agg #[.slice A n cap, .slice oa ol oc] := hf 12 (by omega)
    have f13 : u 13 = .int .i64 E := hf 13 (by omega)
    have f14 : u 14 = .bool false := hf 14 (by omega)
    have f15 : u 15 = .bool false := hf 15 (by omega)
    have f16 : u 16 = .bool false := hf 16 (by omega)
    have f17 : u 17 = .agg #[.slice A n cap, .slice oa ol oc] := hf 17 (by omega)
    have f18 : u 18 = .int .i64 P := hf 18 (by omega)
    have f19 : u 19 = .agg #[.slice A n cap, .slice oa ol oc] := hf 19 (by omega)
    have f20 : u 20 = .int .i64 P := hf 20 (by omega)
    have f21 : u 21 = .bool false := hf 21 (by omega)
    have f22 : u 22 = .bool false := hf 22 (by omega)
    refine UptoW.rest 0 23 (by rfl) (by kernel_rfl) ?_
    simp only [List.take, List.drop, putOps, Act.put, List.setIfInBounds_toArray, List.set_cons_zero, List.set_cons_succ, Nat.reduceAdd, f0, f1, f2, f3, f4, f5, f6, f7, f8, f9, f10, f11, f12, f13, f14, f15, f16, f17, f18, f19, f20, f21, f22]
    clear f0 f1 f2 f3 f4 f5 f6 f7 f8 f9 f10 f11 f12 f13 f14 f15 f16 f17 f18 f19 f20 f21 f22 hf hp
    have HC3 := hide (bl_on HB2.out hb)
    have HG3 := hide (HG2.out.below (hb.mono (by omega)))
    have hs3 := hb.size
    clear hb k0 k1
    obtain ⟨k0, k1⟩ := HG3.out
    go_wp2_with fail
    refine (HWT.out _ HC3.out).mono ?_
    rintro e w4 ⟨rfl, hb4⟩
    have HC4 := hide (bl_on HC3.out hb4)
    have HG4 := hide (HG3.out.below (hb4.mono (by omega)))
    clear hb4 k0 k1
    obtain ⟨k0, k1⟩ := HG4.out
    go_wp2_with fail
    refine (HRWT.out _ HC4.out).mono ?_
    rintro e w5 ⟨rfl, hb5⟩
    have HC5 := hide (bl_on HC4.out hb5)
    clear hb5 k0 k1
    go_wp2
    go_ret
    exact ⟨by simp, HC5.out⟩
end Go.Proofs.Ytmpigjdkkbfbcaa.V
