/-
  Contract: adjointref9.Right (a loop's bounds are right).
-/
import Derived.Test.YtmefgejggpimeaaPtLoopsP
import Derived.Test.YtmefgejggpimeaaPtRef
import Derived.Deep.AppendLies
namespace Go.Proofs.Ytmefgejggpimeaa.V
open Go.RowKit
set_option linter.unusedVariables false

/-- A row of bounds, to be read. -/
def BdsAt (w : World) (g : Nat) (vs : List Value) (bs : List LpB) : Prop := VB w vs bs ∧ ∀ j u, vs[j]? = some u → w.cell? ⟨g, j, none⟩ = some u
theorem BdsAt.below {w w' : World} {g : Nat} {vs : List Value} {bs : List LpB} (h : BdsAt w g vs bs) (hb : Below w.heap.size w w') : BdsAt w' g vs bs := ⟨h.1.below hb, fun j u hj => (hb.cell (p := ⟨g, j, none⟩) (lt_of_cell (h.2 j u hj))).trans (h.2 j u hj)⟩
theorem Side.bds {w : World} {B : Nat} {v : Value} {bs : List LpB} (h : Side w B v bs) : ∃ g c vs, v = .slice (some ⟨g, 0, none⟩) bs.length c ∧ bs.length ≤ c ∧ BdsAt w g vs bs := by
  obtain ⟨vs, h1, h2, h3⟩ := h
  have hl : 0 < bs.length := by cases bs with
    | nil => exact absurd rfl h3
    | cons x r => simp
  rcases h1.2 with ⟨h2, h4⟩ | ⟨g, cap, cur, rfl, h4, h5, h6, h7, h8, h9⟩
  · omega
  · refine ⟨g, cap, vs, rfl, h6, h2, fun j u hj => ?_⟩
    have hjl := (List.getElem?_eq_some_iff.1 hj).1
    rw [h2.1] at hjl
    rw [← h9, List.getElem?_take_of_lt (by omega), Array.getElem?_toList] at hj
    simp [World.cell?, h5, hj]
theorem VB.append {w : World} {vs us : List Value} {bs ds : List LpB} (h : VB w vs bs) (k : VB w us ds) : VB w (vs ++ us) (bs ++ ds) := by
  have h1 := h.1
  have k1 := k.1
  refine ⟨by simp [h1, k1]; omega, fun i hi => ?_⟩
  by_cases hi' : i < bs.length
  · obtain ⟨a, l, c, e1, e2, e3, e4⟩ := h.2 i hi'
    refine ⟨a, l, c, ?_, ?_, ?_, ?_⟩
    · rw [List.getElem?_append_left (by omega)]; exact e1
    · rw [List.getElem?_append_left (by omega), List.getElem?_append_left hi']; exact e2
    · rw [List.getElem?_append_left (by omega), List.getElem?_append_left hi']; exact e3
    · rw [List.getElem?_append_left hi']; exact e4
  · have hi2 : i - bs.length < ds.length := by simp at hi; omega
    obtain ⟨a, l, c, e1, e2, e3, e4⟩ := k.2 (i - bs.length) hi2
    refine ⟨a, l, c, ?_, ?_, ?_, ?_⟩
    · rw [List.getElem?_append_right (by omega), h1, show i * 3 - bs.length * 3 = (i - bs.length) * 3 by omega]; exact e1
    · rw [List.getElem?_append_right (by omega), List.getElem?_append_right (by omega), h1, show i * 3 + 1 - bs.length * 3 = (i - bs.length) * 3 + 1 by omega]; exact e2
    · rw [List.getElem?_append_right (by omega), List.getElem?_append_right (by omega), h1, show i * 3 + 2 - bs.length * 3 = (i - bs.length) * 3 + 2 by omega]; exact e3
    · rw [List.getElem?_append_right (by omega)]; exact e4
theorem VB.one {w : World} {vs : List Value} {bs : List LpB} (h : VB w vs bs) : ∀ u ∈ vs, u.oneCell' = true := by
  intro u hu
  obtain ⟨j, hj, rfl⟩ := List.mem_iff_getElem.1 hu
  have h1 := h.1
  obtain ⟨a, l, c, e1, e2, e3, _⟩ := h.2 (j / 3) (by omega)
  have : j = j / 3 * 3 ∨ j = j / 3 * 3 + 1 ∨ j = j / 3 * 3 + 2 := by omega
  rcases this with e | e | e
  · rw [← e] at e1; rw [List.getElem?_eq_getElem hj] at e1; rw [Option.some.inj e1]; rfl
  · rw [← e] at e2; rw [List.getElem?_eq_getElem hj] at e2; rw [Option.some.inj e2]; rfl
  · rw [← e] at e3; rw [List.getElem?_eq_getElem hj] at e3; rw [Option.some.inj e3]; rfl
/-- A bound over so many numbers that keeps within what it may be. -/
structure LpFit (k : Nat) (b : LpB) : Prop where
  len : b.cs.length = k
  const : -1048576 ≤ b.K ∧ b.K ≤ 1048576
  coef : ∀ c ∈ b.cs, -1048576 ≤ c ∧ c ≤ 1048576
  div : 1 ≤ b.D ∧ b.D ≤ 1048576
theorem LpFit.row {k : Nat} {b : LpB} (h : LpFit k b) : rowE (b.cs, b.K) k = 0 := by
  obtain ⟨h1, h2, h3, _⟩ := h
  unfold rowE
  rw [if_neg (by simpa using h1), if_neg]
  rw [Bool.or_eq_true, List.any_eq_true]
  rintro (hh | ⟨x, hx, hh⟩)
  · simp [ptFar] at hh; omega
  · have := h3 x hx
    simp [ptFar] at hh
    omega
theorem mem_getB (bs : List LpB) (k : Nat) (h : k < bs.length) : bs[k]?.getD ⟨[], 0, 1⟩ ∈ bs := by simp [h]
theorem bds_of_own {w : World} {B g n c : Nat} {vs : List Value} {bs : List LpB} (h1 : w.ownsRow B 65 3 (.slice (some ⟨g, 0, none⟩) n c) n vs) (h2 : VB w vs bs) (hn : bs.length = n) : BdsAt w g vs bs := by
  refine ⟨h2, fun j u hj => ?_⟩
  rcases h1.2 with ⟨h, _⟩ | ⟨g', cap, cur, e, h4, h5, h6, h7, h8, h9⟩
  · cases h
  · cases e
    have hjl := (List.getElem?_eq_some_iff.1 hj).1
    rw [h2.1] at hjl
    rw [← h9, List.getElem?_take_of_lt (by omega), Array.getElem?_toList] at hj
    simp [World.cell?, h5, hj]
set_option maxHeartbeats 16000000 in
theorem right_any (g1 c1 g2 c2 k : Nat) (b1 b2 : List LpB) (v1 v2 : List Value) (w : World) (h1 : BdsAt w g1 v1 b1) (h2 : BdsAt w g2 v2 b2) (n1 : 0 < b1.length ∧ b1.length ≤ 100) (n2 : 0 < b2.length ∧ b2.length ≤ 100) (hk : k ≤ 4) (f1 : ∀ b ∈ b1, LpFit k b) (f2 : ∀ b ∈ b2, LpFit k b) :
    Calls Try.prog 23 #[.agg #[.slice (some ⟨g1, 0, none⟩) b1.length c1, .slice (some ⟨g2, 0, none⟩) b2.length c2], .int .i64 k] w fun e w' => e = .returned (.bool true) ∧ Below w.heap.size w w' := by
  have B1 : Below w.heap.size w (w.alloc (.cells #[.slice (some ⟨g1, 0, none⟩) b1.length c1, .slice (some ⟨g2, 0, none⟩) b2.length c2] 48)) := bl_new _
  have H1 := hide (h1.below B1)
  have H2 := hide (h2.below B1)
  have HB := hide B1
  have HF : Hid (∀ b ∈ b1 ++ b2, LpFit k b) := fun b hb => by
    rcases List.mem_append.1 hb with h | h
    · exact f1 b h
    · exact f2 b h
  obtain ⟨m1, hm1⟩ : ∃ m, m = b1.length := ⟨_, rfl⟩
  obtain ⟨m2, hm2⟩ : ∃ m, m = b2.length := ⟨_, rfl⟩
  rw [← hm1] at n1 H1 H2 HB ⊢
  rw [← hm2] at n2 H1 H2 HB ⊢
  have HM := hide (And.intro hm1 hm2)
  have bx : (w.alloc (.cells #[.slice (some ⟨g1, 0, none⟩) m1 c1, .slice (some ⟨g2, 0, none⟩) m2 c2] 48)).heap[w.heap.size]? = some (.cells #[.slice (some ⟨g1, 0, none⟩) m1 c1, .slice (some ⟨g2, 0, none⟩) m2 c2] 48 (0, 0)) := World.alloc_heap_new _ _
  obtain ⟨W1, hW1⟩ : ∃ W1, W1 = w.alloc (.cells #[.slice (some ⟨g1, 0, none⟩) m1 c1, .slice (some ⟨g2, 0, none⟩) m2 c2] 48) := ⟨_, rfl⟩
  rw [← hW1] at H1 H2 HB bx
  have hz : W1.heap.size = w.heap.size + 1 := by rw [hW1]; simp
  have k1 : W1.cell? ⟨w.heap.size, 0, none⟩ = some (.slice (some ⟨g1, 0, none⟩) m1 c1) := by simp [World.cell?, bx]
  have k2 : W1.cell? ⟨w.heap.size, 1, none⟩ = some (.slice (some ⟨g2, 0, none⟩) m2 c2) := by simp [World.cell?, bx]
  have zN : w.heap.size < W1.heap.size := by omega
  have HBX := hide bx
  have HW1 := hide hW1
  obtain ⟨i0, hi, hz0, hz1, hz2⟩ := info_parts info_bound
  have HI := hide (And.intro hi (And.intro hz0 (And.intro hz1 hz2)))
  clear h1 h2 B1 f1 f2 hm1 hm2 bx hW1 hi hz0 hz1 hz2
  go_enter Try.func23, Try.ntmps23
  go_wp2_with fail
  rw [← HW1.out]
  have own0 : ((W1.alloc (.cells #[] 65)).drew).ownsRow W1.heap.size 65 3 (.slice (some ⟨w.heap.size + 1, 0, none⟩) 0 0) 0 [] := by
    have := World.alloc_heap_new W1 (.cells #[] 65)
    rw [hz] at this
    exact ⟨rfl, .inr ⟨_, 0, #[], rfl, by omega, this, Nat.le_refl _, by decide, rfl, rfl⟩⟩
  have HO0 := hide own0
  have BD : Below W1.heap.size W1 (W1.alloc (.cells #[] 65)).drew := (bl_new _).drew
  have HBD := hide BD
  obtain ⟨hi, hz0, hz1, hz2⟩ := HI.out
  clear own0 BD
  go_region_law (first
    | (refine step_append_lies _ (by rfl) (.tmp 7) (.tmp 9) _ (by rfl) W1.heap.size 65 i0 _ 3 40 Try.underlying46 hi hz0 hz1 hz2 rfl (by omega) (.slice (some ⟨w.heap.size + 1, 0, none⟩) 0 0) 0 [] (by go_simp) HO0.out ⟨g1, 0, none⟩ m1 c1 v1 (by go_simp) (by rw [H1.out.1.1, ← HM.out.1]) (fun j u hj => by rw [Addr.add_lit, Nat.zero_add]; exact (H1.out.below HBD.out).2 j u hj) H1.out.1.one (by omega) (by unfold maxLen; omega) (by omega) HBD.out.size (w.heap.size + 2) (by show (World.alloc W1 _).heap.size = _; rw [World.size_alloc, hz]) ?_; intro gA cA wA ownA grA hatA ltA; have HOA := hide ownA; have HBA := hide (HBD.out.grown grA HBD.out.size (fun j e => by cases e; show W1.heap.size ≤ w.heap.size + 1; omega)); have kA1 := (HBA.out.cell (p := ⟨w.heap.size, 0, none⟩) (by simp only; omega)).trans k1; have kA2 := (HBA.out.cell (p := ⟨w.heap.size, 1, none⟩) (by simp only; omega)).trans k2; have zA := HBA.out.size; clear ownA grA hatA)
    | (refine step_append_lies _ (by rfl) (.tmp 10) (.tmp 12) _ (by rfl) W1.heap.size 65 i0 _ 3 40 Try.underlying46 hi hz0 hz1 hz2 rfl (by omega) _ (0 + m1) ([] ++ v1) (by go_simp) HOA.out ⟨g2, 0, none⟩ m2 c2 v2 (by go_simp) (by rw [H2.out.1.1, ← HM.out.2]) (fun j u hj => by rw [Addr.add_lit, Nat.zero_add]; exact (H2.out.below HBA.out).2 j u hj) H2.out.1.one (by omega) (by unfold maxLen; omega) (by omega) (by omega) wA.heap.size rfl ?_; intro gB cB wB ownB grB hatB ltB; have HOB := hide ownB; have HBB := hide (HBA.out.grown grB (by omega) (fun j e => (HOA.out.lt j e).1)); clear ownB grB hatB))
  all_goals simp only [List.getElem_toArray, List.getElem_cons_succ, List.getElem_cons_zero, Act.put, List.setIfInBounds_toArray, List.set_cons_zero, List.set_cons_succ]
  all_goals
    have HD : Hid (BdsAt wB gB (v1 ++ v2) (b1 ++ b2)) := bds_of_own (n := m1 + m2) (c := cB) (B := W1.heap.size) (by simpa using HOB.out) (VB.append (H1.out.below HBB.out).1 (H2.out.below HBB.out).1) (by rw [List.length_append, ← HM.out.1, ← HM.out.2])
    have HX := hide ((HBB.out.block _ zN).trans HBX.out)
    have HBw := hide (bl_on HB.out HBB.out)
    clear HOA HOB HBA HBB H1 H2 HB HBX HW1 HI HO0 HBD k1 k2 kA1 kA2 hi hz0 hz1 hz2 zA ltA
    go_wp2_with fail
    go_loopw [15] (fun i wr => ∃ j : Nat, j ≤ m1 + m2 ∧ i = .int .i64 j ∧ Below wB.heap.size wB wr) (fun i _ => m1 + m2 - (intOf i).toNat)
    case atStart => exact ⟨0, Nat.zero_le _, rfl, Below.refl _ _⟩
    case round =>
      obtain ⟨j, hj, rfl, hbr⟩ := hrel
      have HBr := hide hbr
      by_cases hlt : j < m1 + m2
      · have hjl : j < (b1 ++ b2).length := by rw [List.length_append, ← HM.out.1, ← HM.out.2]; exact hlt
        have hd := HD.out.below hbr
        obtain ⟨a, l, c, e1, e2, e3, e4, _⟩ := hd.1.2 j hjl
        have ft := HF.out _ (mem_getB _ j hjl)
        obtain ⟨x, hx⟩ : ∃ x, x = (b1 ++ b2)[j]?.getD ⟨[], 0, 1⟩ := ⟨_, rfl⟩
        rw [← hx] at e2 e3 e4 ft
        obtain ⟨cs, K, D⟩ := x
        simp only at e2 e3 e4
        have d1 := hd.2 _ _ e1
        have d2 := hd.2 _ _ e2
        have d3 := hd.2 _ _ e3
        have z1 := lt_of_cell d1
        simp only at z1
        have q1 := ft.div
        have q2 := ft.const
        have q3 := ft.row
        simp only at q1 q2 q3
        obtain ⟨q4, q5⟩ := q1
        have B2 : Below wr.heap.size wr (wr.alloc (.cells #[.slice a l c, .int .i64 K, .int .i64 D] 65)) := bl_new _
        have HC := hide (rRow_any a l c cs K k (wr.alloc (.cells #[.slice a l c, .int .i64 K, .int .i64 D] 65)) (e4.below B2) (by omega) hk)
        rw [q3] at HC
        have HB2 := hide B2
        clear hd e1 e2 e3 e4 hx ft hbr B2 q2 q3 hjl
        go_wp2_with fail
        refine HC.out.mono ?_
        rintro e w3 ⟨rfl, hb3⟩
        have HB3 := hide (bl_on HBr.out (bl_on HB2.out hb3))
        clear hb3
        go_wp2_with fail
        go_roundw
        case rel => exact ⟨j + 1, by omega, by go_num, HB3.out⟩
        case measure => simp [intOf]; omega
      · have hx := (hbr.block _ (Array.getElem?_eq_some_iff.1 HX.out).1).trans HX.out
        have x1 : wr.cell? ⟨w.heap.size, 0, none⟩ = some (.slice (some ⟨g1, 0, none⟩) m1 c1) := by simp [World.cell?, hx]
        have x2 : wr.cell? ⟨w.heap.size, 1, none⟩ = some (.slice (some ⟨g2, 0, none⟩) m2 c2) := by simp [World.cell?, hx]
        have zx := (Array.getElem?_eq_some_iff.1 hx).1
        have hj2 : j = m1 + m2 := by omega
        subst hj2
        clear hx hbr
        go_wp2_with fail
        go_ret
        exact ⟨rfl, bl_on HBw.out HBr.out⟩
end Go.Proofs.Ytmefgejggpimeaa.V
