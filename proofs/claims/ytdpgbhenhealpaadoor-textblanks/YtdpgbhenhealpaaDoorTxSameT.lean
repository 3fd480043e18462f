/-
  Contract: adjointref3.SameTree, of the same tree.
-/
import Derived.Test.YtdpgbhenhealpaaDoorTxSameL
import Derived.Test.YtdpgbhenhealpaaDoorTxBound
import Derived.Deep.RegionWith
namespace Go.Proofs.YtdpgbhenhealpaaDoor.V
set_option maxRecDepth 20000
open Go.RowKit
set_option linter.unusedVariables false

theorem kid_size {kind : Int} {name : ByteArray} {num : Int} {shaped : Bool} {shape : List (ByteArray × Int)} {lists : List (List Int)} {kids : List Tr} {t : Tr} (h : t ∈ kids) : SizeOf.sizeOf t < SizeOf.sizeOf (Tr.mk kind name num shaped shape lists kids) := by
  have := List.sizeOf_lt_of_mem h
  simp only [Tr.mk.sizeOf_spec]
  omega
theorem below_then {w w1 w2 : World} (h : Below w.heap.size w w1) (k : Below w1.heap.size w1 w2) : Below w.heap.size w w2 := h.trans (k.mono h.size)
def SevB (w : World) (b : Nat) (c0 c1 c2 c3 c4 c5 c6 : Value) : Prop := w.heap[b]? = some (.cells #[c0, c1, c2, c3, c4, c5, c6] 47 (0, 0))
theorem sevB_cells {w : World} {b : Nat} {c0 c1 c2 c3 c4 c5 c6 : Value} (h : SevB w b c0 c1 c2 c3 c4 c5 c6) : w.cell? ⟨b, 0, none⟩ = some c0 ∧ w.cell? ⟨b, 1, none⟩ = some c1 ∧ w.cell? ⟨b, 2, none⟩ = some c2 ∧ w.cell? ⟨b, 3, none⟩ = some c3 ∧ w.cell? ⟨b, 4, none⟩ = some c4 ∧ w.cell? ⟨b, 5, none⟩ = some c5 ∧ w.cell? ⟨b, 6, none⟩ = some c6 := by
  unfold SevB at h
  refine ⟨?_, ?_, ?_, ?_, ?_, ?_, ?_⟩ <;> simp [World.cell?, h]
theorem len7 {cs : List Value} (h : cs.length = 7) : ∃ c0 c1 c2 c3 c4 c5 c6, cs = [c0, c1, c2, c3, c4, c5, c6] := by
  match cs, h with
  | [c0, c1, c2, c3, c4, c5, c6], _ => exact ⟨c0, c1, c2, c3, c4, c5, c6, rfl⟩

set_option maxRecDepth 100000 in
set_option maxHeartbeats 4000000 in
theorem same_tree (N : Nat) (hN : N < 9223372036854775807) : ∀ (m : Nat) (t : Tr) (cs1 cs2 : List Value) (S1 S2 : Nat → Prop) (w : World), SizeOf.sizeOf t ≤ m → TrOk N t → TreeV w S1 t cs1 → TreeV w S2 t cs2 →
    Calls Tryd.prog 13 #[.agg cs1.toArray, .agg cs2.toArray] w fun e w' => e = .returned (.bool true) ∧ Below w.heap.size w w' := by
  intro m
  induction m with
  | zero =>
    rintro ⟨kind, name, num, shaped, shape, lists, kids⟩ cs1 cs2 S1 S2 w hm
    simp at hm
  | succ m ih =>
    rintro ⟨kind, name, num, shaped, shape, lists, kids⟩ cs1 cs2 S1 S2 w hm hok h1 h2
    rw [TreeV.iff] at h1 h2
    rw [TrOk] at hok
    obtain ⟨o1, o2, o3, o4, o5⟩ := hok
    obtain ⟨vs1, vl1, vk1, rfl, a1, b1, c1⟩ := h1
    obtain ⟨vs2, vl2, vk2, rfl, a2, b2, c2⟩ := h2
    obtain ⟨As1, cs1, rfl⟩ := a1.form
    obtain ⟨As2, cs2, rfl⟩ := a2.form
    obtain ⟨Al1, cl1, rfl⟩ := b1.form
    obtain ⟨Al2, cl2, rfl⟩ := b2.form
    obtain ⟨Ak1, ck1, rfl⟩ := c1.form
    obtain ⟨Ak2, ck2, rfl⟩ := c2.form
    obtain ⟨O1, hO1⟩ : ∃ O : Obj, O = .cells #[.int .i64 kind, .string name, .int .i64 num, .bool shaped, .slice As1 shape.length cs1, .slice Al1 lists.length cl1, .slice Ak1 kids.length ck1] 47 := ⟨_, rfl⟩
    obtain ⟨O2, hO2⟩ : ∃ O : Obj, O = .cells #[.int .i64 kind, .string name, .int .i64 num, .bool shaped, .slice As2 shape.length cs2, .slice Al2 lists.length cl2, .slice Ak2 kids.length ck2] 47 := ⟨_, rfl⟩
    have hb0 : Below w.heap.size w ((w.alloc O1).alloc O2) := ((Below.refl _ _).alloc (Nat.le_refl _) _).alloc (by simp) _
    have e1 : ((w.alloc O1).alloc O2).heap[w.heap.size]? = some O1 := (Below.heap_alloc _ _ _ (by simp)).trans (World.alloc_heap_new _ _)
    have e2 : ((w.alloc O1).alloc O2).heap[w.heap.size + 1]? = some O2 := by have := World.alloc_heap_new (w.alloc O1) O2; simpa using this
    subst hO1
    subst hO2
    have E1 := hide e1
    have E2 := hide e2
    have HB0 := hide hb0
    have hkid : ∀ (i : Nat) (hi : i < kids.length) (k1 k2 : List Value) (W : World), TreeV W S1 kids[i] k1 → TreeV W S2 kids[i] k2 → Calls Tryd.prog 13 #[.agg k1.toArray, .agg k2.toArray] W fun e w' => e = .returned (.bool true) ∧ Below W.heap.size W w' := by
      intro i hi k1 k2 W q1 q2
      refine ih _ _ _ S1 S2 W ?_ (kidsOk_all.1 o5 _ (List.getElem_mem hi)) q1 q2
      have := kid_size (kind := kind) (name := name) (num := num) (shaped := shaped) (shape := shape) (lists := lists) (List.getElem_mem hi)
      omega
    have HK := hide hkid
    have A1 := hide a1
    have A2 := hide a2
    have B1 := hide b1
    have B2 := hide b2
    have C1 := hide c1
    have C2 := hide c2
    have O3 := hide o3
    obtain ⟨nk, hnk⟩ : ∃ nk, nk = kids.length := ⟨_, rfl⟩
    have HNK := hide hnk
    rw [← hnk] at o4 E1 E2 HB0 C1 C2 ⊢
    obtain ⟨ns, hns⟩ : ∃ ns, ns = shape.length := ⟨_, rfl⟩
    have HNS := hide hns
    rw [← hns] at o1 E1 E2 HB0 A1 A2 ⊢
    obtain ⟨nl, hnl⟩ : ∃ nl, nl = lists.length := ⟨_, rfl⟩
    have HNL := hide hnl
    rw [← hnl] at o2 E1 E2 HB0 B1 B2 ⊢
    clear ih hm a1 a2 b1 b2 c1 c2 o3 o5 hb0 e1 e2 hkid hnk hns hnl
    go_enter Tryd.func13, Tryd.ntmps13
    go_wp2_with fail
    obtain ⟨W0, hW0⟩ : ∃ W0, W0 = ((w.alloc (.cells #[.int .i64 kind, .string name, .int .i64 num, .bool shaped, .slice As1 ns cs1, .slice Al1 nl cl1, .slice Ak1 nk ck1] 47)).alloc (.cells #[.int .i64 kind, .string name, .int .i64 num, .bool shaped, .slice As2 ns cs2, .slice Al2 nl cl2, .slice Ak2 nk ck2] 47)) := ⟨_, rfl⟩
    rw [← hW0] at E1 E2 HB0 ⊢
    have z1 : w.heap.size < W0.heap.size := (Array.getElem?_eq_some_iff.1 E1.out).1
    have z2 : w.heap.size + 1 < W0.heap.size := (Array.getElem?_eq_some_iff.1 E2.out).1
    clear hW0
    refine (same_dims As1 As2 ns ns cs1 cs2 S1 S2 shape W0 (DimV.stays.slice A1.out (Keep.of_below HB0.out)) (DimV.stays.slice A2.out (Keep.of_below HB0.out)) (by have := HNS.out; omega)).mono ?_
    rintro e w1 ⟨rfl, q1⟩
    have HB1 := hide (below_then HB0.out q1)
    have E11 : Hid (SevB w1 w.heap.size _ _ _ _ _ _ _) := (q1.block _ z1).trans E1.out
    have E12 : Hid (SevB w1 (w.heap.size + 1) _ _ _ _ _ _ _) := (q1.block _ z2).trans E2.out
    have z11 := Nat.lt_of_lt_of_le z1 q1.size
    have z12 := Nat.lt_of_lt_of_le z2 q1.size
    obtain ⟨f0, f1, f2, f3, f4, f5, f6⟩ := sevB_cells E11.out
    obtain ⟨g0, g1, g2, g3, g4, g5, g6⟩ := sevB_cells E12.out
    clear q1 E1 E2 HB0 z1 z2 A1 A2
    go_wp2_with fail
    refine (same_lists Al1 Al2 nl nl cl1 cl2 S1 S2 lists w1 (ListV.stays.slice B1.out (Keep.of_below HB1.out)) (ListV.stays.slice B2.out (Keep.of_below HB1.out)) (by have := HNL.out; omega) (fun l hl => by have := O3.out l hl; omega)).mono ?_
    rintro e w2 ⟨rfl, q2⟩
    have HB2 := hide (below_then HB1.out q2)
    have E21 : Hid (SevB w2 w.heap.size _ _ _ _ _ _ _) := (q2.block _ z11).trans E11.out
    have E22 : Hid (SevB w2 (w.heap.size + 1) _ _ _ _ _ _ _) := (q2.block _ z12).trans E12.out
    have z21 := Nat.lt_of_lt_of_le z11 q2.size
    have z22 := Nat.lt_of_lt_of_le z12 q2.size
    clear f0 f1 f2 f3 f4 f5 f6 g0 g1 g2 g3 g4 g5 g6 q2 E11 E12 z11 z12 HB1 B1 B2
    obtain ⟨f0, f1, f2, f3, f4, f5, f6⟩ := sevB_cells E21.out
    obtain ⟨g0, g1, g2, g3, g4, g5, g6⟩ := sevB_cells E22.out
    clear f0 f1 f2 f3 f4 f5 g0 g1 g2 g3 g4 g5
    go_wp2_with fail
    go_loopw [60] (fun i wr => ∃ j : Nat, j ≤ nk ∧ i = .int .i64 j ∧ Below w2.heap.size w2 wr) (fun i _ => nk - (intOf i).toNat)
    case atStart => exact ⟨0, Nat.zero_le _, rfl, Below.refl _ _⟩
    case round =>
      obtain ⟨j, j1, rfl, j2⟩ := hrel
      have J2 := hide j2
      by_cases hj : j < nk
      · have hj' : j < kids.length := by have := HNK.out; omega
        have hbw := below_then HB2.out j2
        have HBW := hide hbw
        have t1 := TreeV.stays.slice C1.out (Keep.of_below hbw)
        have t2 := TreeV.stays.slice C2.out (Keep.of_below hbw)
        obtain ⟨hq1, g1, ks1, rfl, hg1, ht1, hc1⟩ := slice_at TreeV.len t1 j hj' (by decide)
        obtain ⟨hq2, g2, ks2, rfl, hg2, ht2, hc2⟩ := slice_at TreeV.len t2 j hj' (by decide)
        have f6' := (j2.cell (p := ⟨w.heap.size, 6, none⟩) z21).trans f6
        have g6' := (j2.cell (p := ⟨w.heap.size + 1, 6, none⟩) z22).trans g6
        obtain ⟨a0, a1, a2, a3, a4, a5, a6, rfl⟩ := len7 (TreeV.len _ _ ht1)
        obtain ⟨b0, b1, b2, b3, b4, b5, b6, rfl⟩ := len7 (TreeV.len _ _ ht2)
        have x0 := hc1 0 (by decide)
        have y0 := hc2 0 (by decide)
        have x1 := hc1 1 (by decide)
        have y1 := hc2 1 (by decide)
        have x2 := hc1 2 (by decide)
        have y2 := hc2 2 (by decide)
        have x3 := hc1 3 (by decide)
        have y3 := hc2 3 (by decide)
        have x4 := hc1 4 (by decide)
        have y4 := hc2 4 (by decide)
        have x5 := hc1 5 (by decide)
        have y5 := hc2 5 (by decide)
        have x6 := hc1 6 (by decide)
        have y6 := hc2 6 (by decide)
        simp only [Nat.add_zero, List.getElem?_cons_zero, List.getElem?_cons_succ] at x0 x1 x2 x3 x4 x5 x6 y0 y1 y2 y3 y4 y5 y6
        have hcall := HK.out j hj' [a0, a1, a2, a3, a4, a5, a6] [b0, b1, b2, b3, b4, b5, b6] wr.drew (TreeV.stays.keep ht1 (Keep.of_below (Below.refl _ wr).drew)) (TreeV.stays.keep ht2 (Keep.of_below (Below.refl _ wr).drew))
        have HCALL := hide hcall
        have i1 : (0 : Int) ≤ (j : Int) := Int.natCast_nonneg _
        have i2 : (j : Int) < (nk : Int) := by omega
        have zz1 := Nat.lt_of_lt_of_le z21 j2.size
        have zz2 := Nat.lt_of_lt_of_le z22 j2.size
        have HDR : Hid (Below w2.heap.size w2 wr.drew) := J2.out.drew
        clear hq1 hq2 hcall ht1 ht2 hc1 hc2 t1 t2 hbw j2 f6 g6 HK C1 C2 HBW
        go_wp2_with fail
        go_region_with (go_at_call 13; refine HCALL.out.mono ?_; rintro e w3 ⟨rfl, q3⟩; have HB3 := hide (below_then HDR.out q3); clear q3)
        all_goals simp only [List.getElem_toArray, List.getElem_cons_succ, List.getElem_cons_zero, Act.put, List.setIfInBounds_toArray, List.set_cons_zero, List.set_cons_succ]
        all_goals go_wp2_with fail
        all_goals go_roundw
        all_goals try (case measure => simp [intOf]; omega)
        all_goals
          have hr : ∃ j' : Nat, j' ≤ nk ∧ Value.int .i64 ((j : Int) + 1) = .int .i64 j' ∧ Below w2.heap.size w2 w3 := ⟨j + 1, by omega, by go_num, HB3.out⟩
          first
          | exact hr
          | (repeat apply Exists.intro
             exact ⟨hr, rfl⟩)
      · go_wp2_with fail
        go_ret
        exact ⟨rfl, below_then HB2.out J2.out⟩
end Go.Proofs.YtdpgbhenhealpaaDoor.V
