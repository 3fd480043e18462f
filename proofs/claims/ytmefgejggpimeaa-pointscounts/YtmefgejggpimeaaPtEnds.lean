/-
  Contract: points.Ends.
-/
import Derived.Test.YtmefgejggpimeaaPtEndsMath
import Derived.Test.YtmefgejggpimeaaPtCount
import Derived.Test.YtmefgejggpimeaaFresh
import Derived.Test.YtmefgejggpimeaaStages2
import Derived.Test.YtmefgejggpimeaaPtTell2
import Derived.BigRegion
namespace Go.Proofs.Ytmefgejggpimeaa.V
open Go.RowKit Go.Shelf
attribute [local go_sem] Oper.semAt_some
set_option linter.unusedVariables false

/-- The two lists that are being made. -/
structure EndsIn (w : World) (len g1 g2 m : Nat) (lo hi : Nat → Int) (W : World) : Prop where
  low : Boxed W (w.heap.size + 1) 22 (.slice (some ⟨g1, 0, none⟩) len len)
  high : Boxed W (w.heap.size + 1 + 1) 22 (.slice (some ⟨g2, 0, none⟩) len len)
  err : Boxed W (w.heap.size + 1 + 1 + 1) 26 (.int .i64 0)
  row1 : W.rowIs g1 3 len (fun j => .int .i64 (lo j))
  row2 : W.rowIs g2 3 len (fun j => .int .i64 (hi j))
  far1 : w.heap.size + 4 ≤ g1
  far2 : w.heap.size + 4 ≤ g2
  apart : g1 ≠ g2
  lt1 : g1 < m
  lt2 : g2 < m
/-- What is there while the ends are looked for. -/
def EndsAt (w : World) (len Bs : Nat) (s : List (List Int) × Nat) (W : World) : Prop :=
  (s.1 = [] ∧ Boxed W (w.heap.size + 1) 22 (.slice none 0 0) ∧ Boxed W (w.heap.size + 1 + 1) 22 (.slice none 0 0) ∧ Boxed W (w.heap.size + 1 + 1 + 1) 26 (.int .i64 9)) ∨
  (s.1 ≠ [] ∧ ∃ g1 g2, (g1 ≠ Bs ∧ g2 ≠ Bs) ∧ EndsIn w len g1 g2 s.2 (fun j => (lowL s.1)[j]?.getD 0) (fun j => (highL s.1)[j]?.getD 0) W)
theorem boxed_grown {W W' : World} {B b : Nat} {t : TypeId} {v : Value} {row : Option Nat} (h : Boxed W b t v) (hg : W.grownBy W' row) (hr : ∀ r, row = some r → B ≤ r ∧ ∃ o : Obj, W.heap[r]? = some o ∧ o.isCells = false) : Boxed W' b t v :=
  h.kept hg (fun e => by obtain ⟨_, o, ho, hc⟩ := hr b e.symm; rw [h] at ho; cases ho; cases hc)
theorem row_grown {W W' : World} {B b n : Nat} {t : TypeId} {f : Nat → Value} {row : Option Nat} (h : W.rowIs b t n f) (hg : W.grownBy W' row) (hr : ∀ r, row = some r → B ≤ r ∧ ∃ o : Obj, W.heap[r]? = some o ∧ o.isCells = false) : W'.rowIs b t n f :=
  h.of_block (hg.block b h.lt (fun e => by obtain ⟨_, o, ho, hc⟩ := hr b e.symm; obtain ⟨c, hb, _⟩ := h; rw [hb] at ho; cases ho; cases hc))
theorem EndsIn.grown {w : World} {len g1 g2 m B : Nat} {lo hi : Nat → Int} {W W' : World} {row : Option Nat} (h : EndsIn w len g1 g2 m lo hi W) (hg : W.grownBy W' row) (hr : ∀ r, row = some r → B ≤ r ∧ ∃ o : Obj, W.heap[r]? = some o ∧ o.isCells = false) : EndsIn w len g1 g2 m lo hi W' :=
  ⟨boxed_grown h.low hg hr, boxed_grown h.high hg hr, boxed_grown h.err hg hr, row_grown h.row1 hg hr, row_grown h.row2 hg hr, h.far1, h.far2, h.apart, h.lt1, h.lt2⟩
theorem ends_own (w : World) (len B Bs : Nat) : OwnFrom B (fun s W => EndsAt w len Bs s W) := by
  rintro s W W' row h hg hr
  rcases h with ⟨h1, h2, h3, h4⟩ | ⟨h1, g1, g2, hne, h2⟩
  · exact .inl ⟨h1, boxed_grown h2 hg hr, boxed_grown h3 hg hr, boxed_grown h4 hg hr⟩
  · exact .inr ⟨h1, g1, g2, hne, h2.grown hg hr⟩
theorem EndsIn.set1 {w : World} {len g1 g2 m : Nat} {lo hi : Nat → Int} {W : World} (h : EndsIn w len g1 g2 m lo hi W) (k : Nat) (v : Int) : EndsIn w len g1 g2 m (fun j => if j = k then v else lo j) hi (W.setCell ⟨g1, k, none⟩ (.int .i64 v)) := by
  have h1 := h.far1
  have h2 := h.far2
  refine ⟨boxed_setRow h.low (by omega) _ _, boxed_setRow h.high (by omega) _ _, boxed_setRow h.err (by omega) _ _, (h.row1.set k _).congr (fun j _ => by split <;> rfl), h.row2.setOther (a := ⟨g1, k, none⟩) (Ne.symm h.apart) _, h1, h2, h.apart, h.lt1, h.lt2⟩
theorem EndsIn.set2 {w : World} {len g1 g2 m : Nat} {lo hi : Nat → Int} {W : World} (h : EndsIn w len g1 g2 m lo hi W) (k : Nat) (v : Int) : EndsIn w len g1 g2 m lo (fun j => if j = k then v else hi j) (W.setCell ⟨g2, k, none⟩ (.int .i64 v)) := by
  have h1 := h.far1
  have h2 := h.far2
  refine ⟨boxed_setRow h.low (by omega) _ _, boxed_setRow h.high (by omega) _ _, boxed_setRow h.err (by omega) _ _, h.row1.setOther (a := ⟨g2, k, none⟩) h.apart _, (h.row2.set k _).congr (fun j _ => by split <;> rfl), h1, h2, h.apart, h.lt1, h.lt2⟩
theorem EndsIn.drew {w : World} {len g1 g2 m : Nat} {lo hi : Nat → Int} {W : World} (h : EndsIn w len g1 g2 m lo hi W) : EndsIn w len g1 g2 m lo hi W.drew := ⟨h.low, h.high, h.err, h.row1, h.row2, h.far1, h.far2, h.apart, h.lt1, h.lt2⟩
theorem EndsIn.congr {w : World} {len g1 g2 m : Nat} {lo hi lo' hi' : Nat → Int} {W : World} (h : EndsIn w len g1 g2 m lo hi W) (h1 : ∀ j, j < len → lo j = lo' j) (h2 : ∀ j, j < len → hi j = hi' j) : EndsIn w len g1 g2 m lo' hi' W :=
  ⟨h.low, h.high, h.err, h.row1.congr (fun j hj => by rw [h1 j hj]), h.row2.congr (fun j hj => by rw [h2 j hj]), h.far1, h.far2, h.apart, h.lt1, h.lt2⟩
theorem EndsIn.mono {w : World} {len g1 g2 m m' : Nat} {lo hi : Nat → Int} {W : World} (h : EndsIn w len g1 g2 m lo hi W) (hm : m ≤ m') : EndsIn w len g1 g2 m' lo hi W := ⟨h.low, h.high, h.err, h.row1, h.row2, h.far1, h.far2, h.apart, Nat.lt_of_lt_of_le h.lt1 hm, Nat.lt_of_lt_of_le h.lt2 hm⟩
/-- The answer of Ends. -/
def EndsTold (L : List (List Int)) (e : Ending) (w' : World) : Prop := ∃ a l c a' l' c', e = .returned (.tuple #[.slice a l c, .slice a' l' c', .int .i64 (if L = [] then 9 else 0)]) ∧ Ints w' a l (lowL L) ∧ Ints w' a' l' (highL L)
theorem rest_tells2 (n : Nat) (hn : 1 ≤ n) (w : World) (Bs : Nat) (ba : Option Addr) (bl bc : Nat) (box : List Int) (ra : Option Addr) (rl rc : Nat) (rs : List (List Int × Int)) (ho : PtOk box rs) (h : Ints w ba bl box) (hr : Rws w ra rl rs) (W : World) (hR : Rest w Bs ba bl bc ra rl rc W) :
    TellsIn2 FW n Try.prog 39 #[.pointer (some ⟨Bs, 0, none⟩)] (pts box rs) bl (Keep w.heap.size Bs) W := by
  refine through1_tells2 n hn Bs ba bl bc box ra rl rc rs ho (Keep w.heap.size Bs) (Rest w Bs ba bl bc ra rl rc) (fun A hA => ⟨hA.1, h.below hA.2, hr.below hA.2⟩) (fun A B hA hb => ⟨hA.1.below hb, bl_on hA.2 hb⟩) (fun A B hk => hk.1.size) (fun A B hk hA => ⟨hk.2.trans hA.1, hA.2.trans hk.1⟩) W hR

set_option maxRecDepth 100000 in
set_option maxHeartbeats 8000000 in
theorem ends_ok (ba : Option Addr) (bl bc : Nat) (box : List Int) (ra : Option Addr) (rl rc : Nat) (rs : List (List Int × Int)) (w : World) (h : Ints w ba bl box) (hr : Rws w ra rl rs) (hE : ptE box rs = 0) :
    CallsIn FW 8 Try.prog 12 #[.agg #[.slice ba bl bc, .slice ra rl rc]] w fun e w' => EndsTold (pts box rs) e w' ∧ Below w.heap.size w w' := by
  have hro : FW.round = none := rfl
  have ho := ptE_ok hE
  have B1 : Below w.heap.size w ((((w.alloc (.cells #[.slice ba bl bc, .slice ra rl rc] 25)).alloc (.cells #[.slice none 0 0] 22)).alloc (.cells #[.slice none 0 0] 22)).alloc (.cells #[.int .i64 0] 26)) := bl_on (bl_new _) (bl_on (bl_new _) (bl_on (bl_new _) (bl_new _)))
  have P1 := (((PtAt.new w ba bl bc ra rl rc).below (bl_new (.cells #[.slice none 0 0] 22))).below (bl_new (.cells #[.slice none 0 0] 22))).below (bl_new (.cells #[.int .i64 0] 26))
  have R2 := ((Boxed.new (w.alloc (.cells #[.slice ba bl bc, .slice ra rl rc] 25)) 22 (.slice none 0 0)).alloc (.cells #[.slice none 0 0] 22)).alloc (.cells #[.int .i64 0] 26)
  have R3 := (Boxed.new ((w.alloc (.cells #[.slice ba bl bc, .slice ra rl rc] 25)).alloc (.cells #[.slice none 0 0] 22)) 22 (.slice none 0 0)).alloc (.cells #[.int .i64 0] 26)
  have R4 := Boxed.new (((w.alloc (.cells #[.slice ba bl bc, .slice ra rl rc] 25)).alloc (.cells #[.slice none 0 0] 22)).alloc (.cells #[.slice none 0 0] 22)) 26 (.int .i64 0)
  simp only [World.size_alloc] at R2 R3 R4
  have HW := hide (ptWrong_any ba bl bc box ra rl rc rs _ (h.below B1) (hr.below B1))
  have HP1 := hide P1
  have HB := hide B1
  have HR2 := hide R2
  have HR3 := hide R3
  have HR4 := hide R4
  have HE := hide hE
  have H := hide h
  have HR := hide hr
  have HO := hide ho
  have HBL := hide h.1
  have hbl4 : bl ≤ 4 := by have := h.1; have := ho.rank; omega
  clear h hr B1 hE ho P1 R2 R3 R4
  refine callsIn_of_wp_marks Try.func12 rfl trivial ?_ hro
  simp only [Try.ntmps12, List.size_toArray, List.length_cons, List.length_nil, Nat.reduceAdd, Nat.reduceSub, Array.replicate_succ, Array.replicate_zero, List.push_toArray, List.append_toArray, List.nil_append, List.cons_append]
  gi_wp2_with (first
    | (refine ⟨trivial, ?_⟩; gi_at_call 10; refine (callsIn_wide.2 HW.out).mono ?_; rintro e w1 ⟨rfl, hb⟩; rw [HE.out]; have HB1 := hide (bl_on HB.out hb); have P1 := HP1.out.below hb; have HPP := hide P1; obtain ⟨p0, p1⟩ := P1.cells; have zP := P1.lt; have Q2 := hide ((hb.block _ HR2.out.lt).trans HR2.out); have Q3 := hide ((hb.block _ HR3.out.lt).trans HR3.out); have Q4 := hide ((hb.block _ HR4.out.lt).trans HR4.out); have q4 := Boxed.cell Q4.out; have f4 := Boxed.frozen Q4.out; have z4 := Boxed.lt Q4.out; clear hb P1)
    | (refine ⟨trivial, ?_⟩; gi_at_call 25; refine (callsIn_wide.2 (ptThrough_any _ _ _ _ _ _ _)).mono ?_; rintro e w2 ⟨rfl, rfl⟩))
  have bE : EndsAt w bl w1.heap.size ([], 0) (((w1.setCell ⟨w.heap.size + 1 + 1 + 1, 0, none⟩ (.int .i64 0)).setCell ⟨w.heap.size + 1 + 1 + 1, 0, none⟩ (.int .i64 9)).alloc (.cells #[.slice ba bl bc, .slice ra rl rc] 25)) :=
    .inl ⟨rfl, (boxed_setRow (boxed_setRow Q2.out (by omega) _ _) (by omega) _ _).alloc _, (boxed_setRow (boxed_setRow Q3.out (by omega) _ _) (by omega) _ _).alloc _, ((Boxed.set _ Q4.out).set _).alloc _⟩
  have bP := PtAt.new ((w1.setCell ⟨w.heap.size + 1 + 1 + 1, 0, none⟩ (.int .i64 0)).setCell ⟨w.heap.size + 1 + 1 + 1, 0, none⟩ (.int .i64 9)) ba bl bc ra rl rc
  rw [World.size_setCell, World.size_setCell] at bP
  have hB0 : Below w.heap.size w (((w1.setCell ⟨w.heap.size + 1 + 1 + 1, 0, none⟩ (.int .i64 0)).setCell ⟨w.heap.size + 1 + 1 + 1, 0, none⟩ (.int .i64 9)).alloc (.cells #[.slice ba bl bc, .slice ra rl rc] 25)) := ((HB1.out.setCell (p := ⟨w.heap.size + 1 + 1 + 1, 0, none⟩) (by simp; omega) _).setCell (p := ⟨w.heap.size + 1 + 1 + 1, 0, none⟩) (by simp; omega) _).alloc (by simp; omega) _
  obtain ⟨W0, hW0⟩ : ∃ W0, (((w1.setCell ⟨w.heap.size + 1 + 1 + 1, 0, none⟩ (.int .i64 0)).setCell ⟨w.heap.size + 1 + 1 + 1, 0, none⟩ (.int .i64 9)).alloc (.cells #[.slice ba bl bc, .slice ra rl rc] 25)) = W0 := ⟨_, rfl⟩
  have hsz : W0.heap.size = w1.heap.size + 1 := by rw [← hW0]; simp
  rw [hW0] at bE bP hB0 ⊢
  clear hW0 p0 p1 q4 f4
  refine rangeFunc_tells2 (F := FW) (n := 8) hro (by omega) (gf := 39) (lb := #[.pointer (some ⟨w1.heap.size, 0, none⟩)]) rfl trivial (enters_of Try.func39 (by kernel_rfl) rfl)
    (rest_tells2 7 (by omega) w w1.heap.size ba bl bc box ra rl rc rs HO.out H.out HR.out W0 ⟨bP, hB0⟩) Keep.trans (keep_b (by omega) (by omega)) (Below.refl _ _) rfl
    (fun s W => EndsAt w bl w1.heap.size s W ∧ Below w.heap.size w W) (fun _ _ => False)
    (OwnFrom.and (ends_own _ _ _ _) (ownFrom_below (Nat.le_refl _) (by omega))) (fun _ _ _ _ hs _ _ => hs) 0 (Nat.zero_le _) ⟨bE, hB0⟩ ?a1 ?assign ?body ?done ?stop
  case assign =>
    intro l gx W K hK
    gi_wp2
    exact hK
  case stop =>
    rintro D c W _ h _
    exact h.elim
  case done =>
    rintro D W hD ⟨m, hEA, hB⟩ hK
    have zD := (Array.getElem?_eq_some_iff.1 hK).1
    rcases hEA with ⟨hpre, hb2, hb3, hb4⟩ | ⟨hpre, g1, g2, hgB, hEI⟩
    · simp only at hpre
      have e1 : (if pts box rs = [] then (9 : Int) else 0) = 9 := by rw [if_pos hpre]
      have e2 : lowL (pts box rs) = [] := by rw [hpre]; rfl
      have e3 : highL (pts box rs) = [] := by rw [hpre]; rfl
      have E1 := hide e1
      have E2 := hide e2
      have E3 := hide e3
      have c2 := hb2.cell
      have c3 := hb3.cell
      have c4 := hb4.cell
      have f2 := hb2.frozen
      have f3 := hb3.frozen
      have f4 := hb4.frozen
      have HB2 := hide hb2
      have HB3 := hide hb3
      have HB4 := hide hb4
      have HBW := hide hB
      have HK := hide hK
      clear hb2 hb3 hb4 hB hK e1 e2 e3 hpre
      gi_wp2_with fail
      refine wpIn_wide.2 ?_
      go_region
      all_goals gi_wp2_with fail
      have XB := ((HBW.out.setCell (p := ⟨w.heap.size + 1, 0, none⟩) (by simp only; omega) (.slice none 0 0)).setCell (p := ⟨w.heap.size + 1 + 1, 0, none⟩) (by simp only; omega) (.slice none 0 0)).setCell (p := ⟨w.heap.size + 1 + 1 + 1, 0, none⟩) (by simp only; omega) (.int .i64 9)
      have XK : ((((W.setCell ⟨w.heap.size + 1, 0, none⟩ (.slice none 0 0)).setCell ⟨w.heap.size + 1 + 1, 0, none⟩ (.slice none 0 0)).setCell ⟨w.heap.size + 1 + 1 + 1, 0, none⟩ (.int .i64 9)).drew).heap[D]? = some (.deferred (some [])) := ((Below.heap_setCell _ ⟨w.heap.size + 1 + 1 + 1, 0, none⟩ _ D (by simp only; omega)).trans ((Below.heap_setCell _ ⟨w.heap.size + 1 + 1, 0, none⟩ _ D (by simp only; omega)).trans (Below.heap_setCell _ ⟨w.heap.size + 1, 0, none⟩ _ D (by simp only; omega)))).trans HK.out
      have X2 : Boxed ((((W.setCell ⟨w.heap.size + 1, 0, none⟩ (.slice none 0 0)).setCell ⟨w.heap.size + 1 + 1, 0, none⟩ (.slice none 0 0)).setCell ⟨w.heap.size + 1 + 1 + 1, 0, none⟩ (.int .i64 9)).drew) (w.heap.size + 1) 22 (.slice none 0 0) := boxed_setRow (boxed_setRow (Boxed.set _ HB2.out) (by omega) _ _) (by omega) _ _
      have X3 : Boxed ((((W.setCell ⟨w.heap.size + 1, 0, none⟩ (.slice none 0 0)).setCell ⟨w.heap.size + 1 + 1, 0, none⟩ (.slice none 0 0)).setCell ⟨w.heap.size + 1 + 1 + 1, 0, none⟩ (.int .i64 9)).drew) (w.heap.size + 1 + 1) 22 (.slice none 0 0) := boxed_setRow (Boxed.set _ (boxed_setRow HB3.out (by omega) _ _)) (by omega) _ _
      have X4 : Boxed ((((W.setCell ⟨w.heap.size + 1, 0, none⟩ (.slice none 0 0)).setCell ⟨w.heap.size + 1 + 1, 0, none⟩ (.slice none 0 0)).setCell ⟨w.heap.size + 1 + 1 + 1, 0, none⟩ (.int .i64 9)).drew) (w.heap.size + 1 + 1 + 1) 26 (.int .i64 9) := Boxed.set _ (boxed_setRow (boxed_setRow HB4.out (by omega) _ _) (by omega) _ _)
      refine ⟨by simp, .inl ⟨_, _, rfl, run_takeDeferred XK, ?_⟩⟩
      have Y2 := Boxed.cell ((World.putObj_heap_other (o := .deferred none) (by omega : w.heap.size + 1 ≠ D)).trans X2)
      have Y3 := Boxed.cell ((World.putObj_heap_other (o := .deferred none) (by omega : w.heap.size + 1 + 1 ≠ D)).trans X3)
      have Y4 := Boxed.cell ((World.putObj_heap_other (o := .deferred none) (by omega : w.heap.size + 1 + 1 + 1 ≠ D)).trans X4)
      exact ⟨.tuple #[.slice none 0 0, .slice none 0 0, .int .i64 9], by simp [results, Try.results12, go_sem, Y2, Y3, Y4], ⟨none, 0, 0, none, 0, 0, by rw [E1.out], by rw [E2.out]; exact ints_nil _, by rw [E3.out]; exact ints_nil _⟩, XB.drew.trans (belowK_b (w := w) (Nat.le_refl _) _ D _ _ (by omega) XK rfl rfl)⟩
    · simp only at hpre hEI
      have e1 : (if pts box rs = [] then (9 : Int) else 0) = 0 := by rw [if_neg hpre]
      have E1 := hide e1
      have hsm : ∀ y ∈ pts box rs, Sm y bl := fun y hy => by
        obtain ⟨p, hp, rfl, _⟩ := pts_mem hy
        have := index_bd HO.out hp
        exact ⟨by rw [this.2, HBL.out], this.1⟩
      have HS1 := hide (sm_low hpre hsm)
      have HS2 := hide (sm_high hpre hsm)
      have c2 := hEI.low.cell
      have c3 := hEI.high.cell
      have c4 := hEI.err.cell
      have f2 := hEI.low.frozen
      have f3 := hEI.high.frozen
      have f4 := hEI.err.frozen
      have HB2 := hide hEI.low
      have HB3 := hide hEI.high
      have HB4 := hide hEI.err
      have hx1 := hEI.far1
      have hx2 := hEI.far2
      have n1 : g1 ≠ D := by intro e; obtain ⟨c, hb, _⟩ := hEI.row1; rw [e, hK] at hb; cases hb
      have n2 : g2 ≠ D := by intro e; obtain ⟨c, hb, _⟩ := hEI.row2; rw [e, hK] at hb; cases hb
      have HR1 := hide hEI.row1
      have HR2 := hide hEI.row2
      have HBW := hide hB
      have HK := hide hK
      clear hEI hB hK e1 hpre hsm
      gi_wp2_with fail
      refine wpIn_wide.2 ?_
      go_region
      all_goals gi_wp2_with fail
      have XB := ((HBW.out.setCell (p := ⟨w.heap.size + 1, 0, none⟩) (by simp only; omega) (.slice (some ⟨g1, 0, none⟩) bl bl)).setCell (p := ⟨w.heap.size + 1 + 1, 0, none⟩) (by simp only; omega) (.slice (some ⟨g2, 0, none⟩) bl bl)).setCell (p := ⟨w.heap.size + 1 + 1 + 1, 0, none⟩) (by simp only; omega) (.int .i64 0)
      have XK : ((((W.setCell ⟨w.heap.size + 1, 0, none⟩ (.slice (some ⟨g1, 0, none⟩) bl bl)).setCell ⟨w.heap.size + 1 + 1, 0, none⟩ (.slice (some ⟨g2, 0, none⟩) bl bl)).setCell ⟨w.heap.size + 1 + 1 + 1, 0, none⟩ (.int .i64 0)).drew).heap[D]? = some (.deferred (some [])) := ((Below.heap_setCell _ ⟨w.heap.size + 1 + 1 + 1, 0, none⟩ _ D (by simp only; omega)).trans ((Below.heap_setCell _ ⟨w.heap.size + 1 + 1, 0, none⟩ _ D (by simp only; omega)).trans (Below.heap_setCell _ ⟨w.heap.size + 1, 0, none⟩ _ D (by simp only; omega)))).trans HK.out
      have X2 : Boxed ((((W.setCell ⟨w.heap.size + 1, 0, none⟩ (.slice (some ⟨g1, 0, none⟩) bl bl)).setCell ⟨w.heap.size + 1 + 1, 0, none⟩ (.slice (some ⟨g2, 0, none⟩) bl bl)).setCell ⟨w.heap.size + 1 + 1 + 1, 0, none⟩ (.int .i64 0)).drew) (w.heap.size + 1) 22 (.slice (some ⟨g1, 0, none⟩) bl bl) := boxed_setRow (boxed_setRow (Boxed.set _ HB2.out) (by omega) _ _) (by omega) _ _
      have X3 : Boxed ((((W.setCell ⟨w.heap.size + 1, 0, none⟩ (.slice (some ⟨g1, 0, none⟩) bl bl)).setCell ⟨w.heap.size + 1 + 1, 0, none⟩ (.slice (some ⟨g2, 0, none⟩) bl bl)).setCell ⟨w.heap.size + 1 + 1 + 1, 0, none⟩ (.int .i64 0)).drew) (w.heap.size + 1 + 1) 22 (.slice (some ⟨g2, 0, none⟩) bl bl) := boxed_setRow (Boxed.set _ (boxed_setRow HB3.out (by omega) _ _)) (by omega) _ _
      have X4 : Boxed ((((W.setCell ⟨w.heap.size + 1, 0, none⟩ (.slice (some ⟨g1, 0, none⟩) bl bl)).setCell ⟨w.heap.size + 1 + 1, 0, none⟩ (.slice (some ⟨g2, 0, none⟩) bl bl)).setCell ⟨w.heap.size + 1 + 1 + 1, 0, none⟩ (.int .i64 0)).drew) (w.heap.size + 1 + 1 + 1) 26 (.int .i64 0) := Boxed.set _ (boxed_setRow (boxed_setRow HB4.out (by omega) _ _) (by omega) _ _)
      refine ⟨by simp, .inl ⟨_, _, rfl, run_takeDeferred XK, ?_⟩⟩
      have Y2 := Boxed.cell ((World.putObj_heap_other (o := .deferred none) (by omega : w.heap.size + 1 ≠ D)).trans X2)
      have Y3 := Boxed.cell ((World.putObj_heap_other (o := .deferred none) (by omega : w.heap.size + 1 + 1 ≠ D)).trans X3)
      have Y4 := Boxed.cell ((World.putObj_heap_other (o := .deferred none) (by omega : w.heap.size + 1 + 1 + 1 ≠ D)).trans X4)
      have I1 : Told 0 g1 bl (lowL (pts box rs)) (((((W.setCell ⟨w.heap.size + 1, 0, none⟩ (.slice (some ⟨g1, 0, none⟩) bl bl)).setCell ⟨w.heap.size + 1 + 1, 0, none⟩ (.slice (some ⟨g2, 0, none⟩) bl bl)).setCell ⟨w.heap.size + 1 + 1 + 1, 0, none⟩ (.int .i64 0)).drew).putObj D (.deferred none)) :=
        ⟨Nat.zero_le _, (((HR1.out.setOther (a := ⟨w.heap.size + 1, 0, none⟩) (by simp only; omega) _).setOther (a := ⟨w.heap.size + 1 + 1, 0, none⟩) (by simp only; omega) _).setOther (a := ⟨w.heap.size + 1 + 1 + 1, 0, none⟩) (by simp only; omega) _).of_block (World.putObj_heap_other n1), HS1.out.1, hbl4, HS1.out.2⟩
      have I2 : Told 0 g2 bl (highL (pts box rs)) (((((W.setCell ⟨w.heap.size + 1, 0, none⟩ (.slice (some ⟨g1, 0, none⟩) bl bl)).setCell ⟨w.heap.size + 1 + 1, 0, none⟩ (.slice (some ⟨g2, 0, none⟩) bl bl)).setCell ⟨w.heap.size + 1 + 1 + 1, 0, none⟩ (.int .i64 0)).drew).putObj D (.deferred none)) :=
        ⟨Nat.zero_le _, (((HR2.out.setOther (a := ⟨w.heap.size + 1, 0, none⟩) (by simp only; omega) _).setOther (a := ⟨w.heap.size + 1 + 1, 0, none⟩) (by simp only; omega) _).setOther (a := ⟨w.heap.size + 1 + 1 + 1, 0, none⟩) (by simp only; omega) _).of_block (World.putObj_heap_other n2), HS2.out.1, hbl4, HS2.out.2⟩
      exact ⟨.tuple #[.slice (some ⟨g1, 0, none⟩) bl bl, .slice (some ⟨g2, 0, none⟩) bl bl, .int .i64 0], by simp [results, Try.results12, go_sem, Y2, Y3, Y4], ⟨_, _, _, _, _, _, by rw [E1.out], I1.ints, I2.ints⟩, XB.drew.trans (belowK_b (w := w) (Nat.le_refl _) _ D _ _ (by omega) XK rfl rfl)⟩
  case body =>
    rintro l pre m x post gx W hL ⟨hEA, hB⟩ hT hmg
    have hxm : x ∈ pts box rs := by rw [hL]; simp
    have hsm : ∀ y ∈ pts box rs, Sm y bl := fun y hy => by
      obtain ⟨p, hp, rfl, _⟩ := pts_mem hy
      have := index_bd HO.out hp
      exact ⟨by rw [this.2, HBL.out], this.1⟩
    have HSX := hide (hsm x hxm)
    have HSP : Hid (∀ y ∈ pre, Sm y bl) := fun y hy => hsm y (by rw [hL]; simp [hy])
    clear hL hxm hsm
    rcases hEA with ⟨hpre, hb2, hb3, hb4⟩ | ⟨hpre, g1, g2, hgB, hEI⟩
    · have zl := hT.lt
      have hge := hT.1
      have c4 := hb4.cell
      have f2 := hb2.frozen
      have f3 := hb3.frozen
      have f4 := hb4.frozen
      have c2 := hb2.cell
      have c3 := hb3.cell
      have HT := hide hT
      have HBW := hide hB
      have HB2 := hide hb2
      have HB3 := hide hb3
      have HB4 := hide hb4
      have HFR := hide (fun W' (hb : Below W.heap.size W W') => fresh_any (some ⟨gx, 0, none⟩) bl bl x W' ((HT.out.below hb).ints) (by have := hT.2.2.2.1; omega))
      subst hpre
      clear hT hB hb2 hb3 hb4
      gi_wp2_with (first
        | (refine ⟨trivial, ?_⟩; gi_at_call 29; refine (callsIn_wide.2 (HFR.out w2 HBx.out)).mono ?_; rintro e w3 ⟨⟨g2, rfl, r2, hg2⟩, hb⟩; have HR2 := hide r2; have HR1' := hide (HR1.out.below hb); have HBy := hide (bl_on HBx.out hb); have hs2 := hBxs; have hg2' := hg2; have d2 := Boxed.cell ((HBy.out.block _ HB2.out.lt).trans HB2.out); have d3 := Boxed.cell ((HBy.out.block _ HB3.out.lt).trans HB3.out); have d4 := Boxed.cell ((HBy.out.block _ HB4.out.lt).trans HB4.out); have e2 := Boxed.frozen ((HBy.out.block _ HB2.out.lt).trans HB2.out); have e3 := Boxed.frozen ((HBy.out.block _ HB3.out.lt).trans HB3.out); have e4 := Boxed.frozen ((HBy.out.block _ HB4.out.lt).trans HB4.out); have zw3 := HBy.out.size; clear hb r2)
        | (refine ⟨trivial, ?_⟩; gi_at_call 29; refine (callsIn_wide.2 (HFR.out W (Below.refl _ _))).mono ?_; rintro e w2 ⟨⟨g1, rfl, r1, hg1⟩, hb⟩; have HR1 := hide r1; have hg1l := r1.lt; have HBx := hide hb; have hBxs := hb.size; clear hb r1))
      obtain ⟨WA, hWA⟩ : ∃ WA, WA = ((w3.setCell ⟨w.heap.size + 1, 0, none⟩ (.slice (some ⟨g1, 0, none⟩) bl bl)).setCell ⟨w.heap.size + 1 + 1, 0, none⟩ (.slice (some ⟨g2, 0, none⟩) bl bl)).setCell ⟨w.heap.size + 1 + 1 + 1, 0, none⟩ (.int .i64 0) := ⟨_, rfl⟩
      have k2 := (HBy.out.block _ HB2.out.lt).trans HB2.out
      have k3 := (HBy.out.block _ HB3.out.lt).trans HB3.out
      have k4 := (HBy.out.block _ HB4.out.lt).trans HB4.out
      obtain ⟨m1, hm1⟩ : ∃ m1, m1 = w3.heap.size := ⟨_, rfl⟩
      have hEI : EndsIn w bl g1 g2 m1 (fun j => x[j]?.getD 0) (fun j => x[j]?.getD 0) WA := by
        rw [hWA, hm1]
        refine ⟨boxed_setRow (boxed_setRow (Boxed.set _ k2) (by omega) _ _) (by omega) _ _, boxed_setRow (Boxed.set _ (boxed_setRow k3 (by omega) _ _)) (by omega) _ _, Boxed.set _ (boxed_setRow (boxed_setRow k4 (by omega) _ _) (by omega) _ _), ?_, ?_, by omega, by omega, by omega, ?_, HR2.out.lt⟩
        · exact ((HR1'.out.setOther (a := ⟨w.heap.size + 1, 0, none⟩) (by simp only; omega) _).setOther (a := ⟨w.heap.size + 1 + 1, 0, none⟩) (by simp only; omega) _).setOther (a := ⟨w.heap.size + 1 + 1 + 1, 0, none⟩) (by simp only; omega) _
        · exact ((HR2.out.setOther (a := ⟨w.heap.size + 1, 0, none⟩) (by simp only; omega) _).setOther (a := ⟨w.heap.size + 1 + 1, 0, none⟩) (by simp only; omega) _).setOther (a := ⟨w.heap.size + 1 + 1 + 1, 0, none⟩) (by simp only; omega) _
        · exact HR1'.out.lt
      have HSL := HSX
      have HSH := HSX
      obtain ⟨lo0, hlo⟩ : ∃ lo, lo = x := ⟨_, rfl⟩
      obtain ⟨hi0, hhi⟩ : ∃ hi, hi = x := ⟨_, rfl⟩
      have HLOW : Hid (lowL ([] ++ [x]) = both2 min lo0 x) := by rw [Hid, hlo, both2_self min (fun x => by omega)]; exact lowL_one x
      have HHIGH : Hid (highL ([] ++ [x]) = both2 max hi0 x) := by rw [Hid, hhi, both2_self max (fun x => by omega)]; exact highL_one x
      replace HSL : Hid (Sm lo0 bl) := by rw [Hid, hlo]; exact HSX.out
      replace HSH : Hid (Sm hi0 bl) := by rw [Hid, hhi]; exact HSX.out
      replace hEI : EndsIn w bl g1 g2 m1 (fun j => lo0[j]?.getD 0) (fun j => hi0[j]?.getD 0) WA := by rw [hlo, hhi]; exact hEI
      have hgx : gx ≠ g1 ∧ gx ≠ g2 := ⟨by omega, by omega⟩
      have hgB : g1 ≠ w1.heap.size ∧ g2 ≠ w1.heap.size := ⟨by omega, by omega⟩
      have HEI := hide hEI
      have HT1 : Hid (Told W0.heap.size gx bl x WA) := by
        rw [hWA]
        exact (HT.out.below HBy.out).of_block ((Below.heap_setCell _ ⟨w.heap.size + 1 + 1 + 1, 0, none⟩ _ _ (by simp only; omega)).trans ((Below.heap_setCell _ ⟨w.heap.size + 1 + 1, 0, none⟩ _ _ (by simp only; omega)).trans (Below.heap_setCell _ ⟨w.heap.size + 1, 0, none⟩ _ _ (by simp only; omega))))
      have HB1W : Hid (Below w.heap.size w WA) := by
        rw [hWA]
        exact (((bl_on HBW.out HBy.out).setCell (p := ⟨w.heap.size + 1, 0, none⟩) (by simp only; omega) _).setCell (p := ⟨w.heap.size + 1 + 1, 0, none⟩) (by simp only; omega) _).setCell (p := ⟨w.heap.size + 1 + 1 + 1, 0, none⟩) (by simp only; omega) _
      have HKp : Hid (Keep w.heap.size w1.heap.size W WA) := by
        rw [hWA]
        have k : Keep w.heap.size w1.heap.size W w3 := ⟨HBy.out.mono (by have := HBW.out.size; omega), HBy.out.block _ (by omega)⟩
        exact ((k.setCell (p := ⟨w.heap.size + 1, 0, none⟩) (by simp only; omega) (by simp only; omega) _).setCell (p := ⟨w.heap.size + 1 + 1, 0, none⟩) (by simp only; omega) (by simp only; omega) _).setCell (p := ⟨w.heap.size + 1 + 1 + 1, 0, none⟩) (by simp only; omega) (by simp only; omega) _
      have HKf : Hid (KeepsFrom W0.heap.size W WA) := by
        rw [hWA]
        have k : KeepsFrom W0.heap.size W w3 := ⟨HBy.out.size, fun b _ _ hk _ => (HBy.out.block b (Array.getElem?_eq_some_iff.1 hk).1).trans hk⟩
        exact k.trans ((((KeepsOthers.setCell _ _ _).trans (KeepsOthers.setCell _ _ _)).trans (KeepsOthers.setCell _ _ _)).from _)
      rw [← hWA]
      clear hWA hEI k2 k3 k4 hlo hhi d2 d3 d4 e2 e3 e4 c2 c3 c4 f2 f3 f4
      gi_wp2_with fail
      gi_loopw [24] (fun i wr => ∃ j : Nat, j ≤ bl ∧ i = .int .i64 j ∧ EndsIn w bl g1 g2 m1 (half min lo0 x j) (half max hi0 x j) wr ∧ Told W0.heap.size gx bl x wr ∧ Below w.heap.size w wr ∧ Keep w.heap.size w1.heap.size W wr ∧ KeepsFrom W0.heap.size W wr) (fun i _ => bl - (intOf i).toNat)
      case atStart => exact ⟨0, Nat.zero_le _, rfl, HEI.out.congr (fun j hj => by rw [half_zero]) (fun j hj => by rw [half_zero]), HT1.out, HB1W.out, HKp.out, HKf.out⟩
      case round =>
        obtain ⟨j, hj, rfl, hEI, hT, hB, hKp, hKf⟩ := hrel
        by_cases hlt : j < bl
        · have HLT := hide hlt
          have e1 := hEI.low.cell
          have e2 := hEI.high.cell
          have e3 := hEI.row1.cell hlt
          have e4 := hEI.row2.cell hlt
          have e5 := hEI.row1.frozen j
          have e6 := hEI.row2.frozen j
          have e7 := hT.2.1.cell hlt
          have z1 := hEI.row1.lt
          have z2 := hEI.row2.lt
          have z3 := hT.lt
          have h1 : half min lo0 x j j = lo0[j]?.getD 0 := by simp [half]
          have h2 : half max hi0 x j j = hi0[j]?.getD 0 := by simp [half]
          simp only [h1] at e3
          simp only [h2] at e4
          have b1 := HSL.out.getD j
          have b2 := HSH.out.getD j
          have b3 := HSX.out.getD j
          obtain ⟨A, hA⟩ : ∃ A, A = lo0[j]?.getD 0 := ⟨_, rfl⟩
          obtain ⟨B, hBB⟩ : ∃ B, B = hi0[j]?.getD 0 := ⟨_, rfl⟩
          obtain ⟨X, hX⟩ : ∃ X, X = x[j]?.getD 0 := ⟨_, rfl⟩
          rw [← hA] at e3 b1
          rw [← hBB] at e4 b2
          rw [← hX] at e7 b3
          obtain ⟨mn, hmn⟩ : ∃ mn, (if X < A then X else A) = mn := ⟨_, rfl⟩
          obtain ⟨mx, hmx⟩ : ∃ mx, (if B < X then X else B) = mx := ⟨_, rfl⟩
          have S1 := (hEI.drew.set1 j mn)
          have S2 := S1.set2 j mx
          have HMN : Hid (mn = min A X) := by rw [Hid, ← hmn]; split <;> omega
          have HMX : Hid (mx = max B X) := by rw [Hid, ← hmx]; split <;> omega
          have hmnb : 0 ≤ mn ∧ mn ≤ 4096 := by rw [← hmn]; split <;> omega
          have hmxb : 0 ≤ mx ∧ mx ≤ 4096 := by rw [← hmx]; split <;> omega
          have HS2 := hide S2
          have HTT := hide hT
          have HBt := hide hB
          have HKpt := hide hKp
          have HKft := hide hKf
          have f1 := S1.row2.frozen j
          have f2 := S1.row2.cell hlt
          simp only [h2] at f2
          rw [← hBB] at f2
          have c2 := S1.high.cell
          have hx1 := hEI.far1
          have hx2 := hEI.far2
          have hxl1 := hEI.lt1
          have hxl2 := hEI.lt2
          have HA := hide hA
          have HBX := hide hBB
          have HXX := hide hX
          have hap := hEI.apart
          clear hEI hT hB hKp hKf hA hBB hX h1 h2 S1 S2
          gi_wp2_with fail
          refine region_stages (by kernel_rfl) ?_
          refine Upto.store (W1 := wr.drew.setCell ⟨g1, j, none⟩ (.int .i64 mn)) 17 (by kernel_rfl) rfl rfl rfl rfl ?_
          simp only [List.take_succ_cons, List.take_zero]
          iterate 17
            first
              | (apply Reads2.early rfl
                 · go_simp
                   try rfl
                 · rfl)
              | (apply Reads2.late
                 · go_simp
                   try rfl
                 · rfl
                 · go_simp
                   try rfl
                 · rfl)
            simp only [Act.put, List.setIfInBounds_toArray, List.set_cons_succ, List.set_cons_zero]
          refine Reads2.nil ?_
          refine ⟨?st, ?_⟩
          case st =>
            exact ⟨.skip, .inl rfl, by go_simp, rfl⟩
          refine Upto.rest 2 18 rfl (by kernel_rfl) ?_
          simp only [List.drop_succ_cons, List.drop_zero]
          gi_wp2_with fail
          go_roundw
          case rel =>
            refine ⟨j + 1, by have := HLT.out; omega, by have := HLT.out; go_num, (HS2.out.congr (fun k hk => ?_) (fun k hk => ?_)), ?_, ?_, ?_, ?_⟩
            · rw [HMN.out, HA.out, HXX.out]; exact half_succ min lo0 x j k
            · rw [HMX.out, HBX.out, HXX.out]; exact half_succ max hi0 x j k
            · exact HTT.out.of_block ((Below.heap_setCell _ ⟨g2, j, none⟩ _ _ hgx.2).trans (Below.heap_setCell _ ⟨g1, j, none⟩ _ _ hgx.1))
            · exact ((HBt.out.setCell (p := ⟨g1, j, none⟩) (by simp only; omega) _).setCell (p := ⟨g2, j, none⟩) (by simp only; omega) _).drew
            · exact ((HKpt.out.setCell (p := ⟨g1, j, none⟩) (by simp only; omega) (Ne.symm hgB.1) _).setCell (p := ⟨g2, j, none⟩) (by simp only; omega) (Ne.symm hgB.2) _).drewN
            · exact HKft.out.trans ((((KeepsOthers.setCell _ _ _).trans (KeepsOthers.setCell _ _ _)).trans (KeepsOthers.drew _)).from _)
          case measure => have := HLT.out; simp [intOf]; omega
        · obtain rfl : j = bl := by omega
          have HEE := hide hEI
          have HBt := hide hB
          have HKpt := hide hKp
          have HKft := hide hKf
          have z1 := hEI.row1.lt
          have z2 := hEI.row2.lt
          clear hEI hT hB hKp hKf
          gi_wp2_with fail
          refine ⟨HKft.out, HKpt.out, wr.heap.size, Nat.le_refl _, .inr ⟨by simp, g1, g2, hgB, ?_⟩, HBt.out⟩
          have E := HEE.out
          refine ⟨E.low, E.high, E.err, E.row1.congr (fun k hk => ?_), E.row2.congr (fun k hk => ?_), E.far1, E.far2, E.apart, z1, z2⟩
          · have e := half_all min lo0 x k (by rw [HSL.out.1]; exact hk)
            rw [HSL.out.1] at e
            rw [e, ← HLOW.out]
          · have e := half_all max hi0 x k (by rw [HSH.out.1]; exact hk)
            rw [HSH.out.1] at e
            rw [e, ← HHIGH.out]
    · have HSL := hide (sm_low hpre HSP.out)
      have HSH := hide (sm_high hpre HSP.out)
      have c4 := hEI.err.cell
      have zl := hT.lt
      obtain ⟨lo0, hlo⟩ : ∃ lo, lo = lowL pre := ⟨_, rfl⟩
      obtain ⟨hi0, hhi⟩ : ∃ hi, hi = highL pre := ⟨_, rfl⟩
      obtain ⟨m1, hm1⟩ : ∃ m1, m1 = m := ⟨_, rfl⟩
      simp only [← hlo, ← hhi, ← hm1] at hEI HSL HSH
      have HEI := hide hEI
      have HT1 := hide hT
      have HB1W := hide hB
      have HKp := hide (Keep.refl w.heap.size w1.heap.size W)
      have HKf := hide (KeepsFrom.refl W0.heap.size W)
      have HLOW : Hid (lowL (pre ++ [x]) = both2 min lo0 x) := by rw [Hid, lowL_snoc pre x hpre, ← hlo]
      have HHIGH : Hid (highL (pre ++ [x]) = both2 max hi0 x) := by rw [Hid, highL_snoc pre x hpre, ← hhi]
      have hgx : gx ≠ g1 ∧ gx ≠ g2 := ⟨by have := hEI.lt1; omega, by have := hEI.lt2; omega⟩
      clear hEI hT hB hlo hhi hpre hm1 hmg
      gi_wp2_with fail
      gi_loopw [24] (fun i wr => ∃ j : Nat, j ≤ bl ∧ i = .int .i64 j ∧ EndsIn w bl g1 g2 m1 (half min lo0 x j) (half max hi0 x j) wr ∧ Told W0.heap.size gx bl x wr ∧ Below w.heap.size w wr ∧ Keep w.heap.size w1.heap.size W wr ∧ KeepsFrom W0.heap.size W wr) (fun i _ => bl - (intOf i).toNat)
      case atStart => exact ⟨0, Nat.zero_le _, rfl, HEI.out.congr (fun j hj => by rw [half_zero]) (fun j hj => by rw [half_zero]), HT1.out, HB1W.out, HKp.out, HKf.out⟩
      case round =>
        obtain ⟨j, hj, rfl, hEI, hT, hB, hKp, hKf⟩ := hrel
        by_cases hlt : j < bl
        · have HLT := hide hlt
          have e1 := hEI.low.cell
          have e2 := hEI.high.cell
          have e3 := hEI.row1.cell hlt
          have e4 := hEI.row2.cell hlt
          have e5 := hEI.row1.frozen j
          have e6 := hEI.row2.frozen j
          have e7 := hT.2.1.cell hlt
          have z1 := hEI.row1.lt
          have z2 := hEI.row2.lt
          have z3 := hT.lt
          have h1 : half min lo0 x j j = lo0[j]?.getD 0 := by simp [half]
          have h2 : half max hi0 x j j = hi0[j]?.getD 0 := by simp [half]
          simp only [h1] at e3
          simp only [h2] at e4
          have b1 := HSL.out.getD j
          have b2 := HSH.out.getD j
          have b3 := HSX.out.getD j
          obtain ⟨A, hA⟩ : ∃ A, A = lo0[j]?.getD 0 := ⟨_, rfl⟩
          obtain ⟨B, hBB⟩ : ∃ B, B = hi0[j]?.getD 0 := ⟨_, rfl⟩
          obtain ⟨X, hX⟩ : ∃ X, X = x[j]?.getD 0 := ⟨_, rfl⟩
          rw [← hA] at e3 b1
          rw [← hBB] at e4 b2
          rw [← hX] at e7 b3
          obtain ⟨mn, hmn⟩ : ∃ mn, (if X < A then X else A) = mn := ⟨_, rfl⟩
          obtain ⟨mx, hmx⟩ : ∃ mx, (if B < X then X else B) = mx := ⟨_, rfl⟩
          have S1 := (hEI.drew.set1 j mn)
          have S2 := S1.set2 j mx
          have HMN : Hid (mn = min A X) := by rw [Hid, ← hmn]; split <;> omega
          have HMX : Hid (mx = max B X) := by rw [Hid, ← hmx]; split <;> omega
          have hmnb : 0 ≤ mn ∧ mn ≤ 4096 := by rw [← hmn]; split <;> omega
          have hmxb : 0 ≤ mx ∧ mx ≤ 4096 := by rw [← hmx]; split <;> omega
          have HS2 := hide S2
          have HTT := hide hT
          have HBt := hide hB
          have HKpt := hide hKp
          have HKft := hide hKf
          have f1 := S1.row2.frozen j
          have f2 := S1.row2.cell hlt
          simp only [h2] at f2
          rw [← hBB] at f2
          have c2 := S1.high.cell
          have hx1 := hEI.far1
          have hx2 := hEI.far2
          have hxl1 := hEI.lt1
          have hxl2 := hEI.lt2
          have HA := hide hA
          have HBX := hide hBB
          have HXX := hide hX
          have hap := hEI.apart
          clear hEI hT hB hKp hKf hA hBB hX h1 h2 S1 S2
          gi_wp2_with fail
          refine region_stages (by kernel_rfl) ?_
          refine Upto.store (W1 := wr.drew.setCell ⟨g1, j, none⟩ (.int .i64 mn)) 17 (by kernel_rfl) rfl rfl rfl rfl ?_
          simp only [List.take_succ_cons, List.take_zero]
          iterate 17
            first
              | (apply Reads2.early rfl
                 · go_simp
                   try rfl
                 · rfl)
              | (apply Reads2.late
                 · go_simp
                   try rfl
                 · rfl
                 · go_simp
                   try rfl
                 · rfl)
            simp only [Act.put, List.setIfInBounds_toArray, List.set_cons_succ, List.set_cons_zero]
          refine Reads2.nil ?_
          refine ⟨?st, ?_⟩
          case st =>
            exact ⟨.skip, .inl rfl, by go_simp, rfl⟩
          refine Upto.rest 2 18 rfl (by kernel_rfl) ?_
          simp only [List.drop_succ_cons, List.drop_zero]
          gi_wp2_with fail
          go_roundw
          case rel =>
            refine ⟨j + 1, by have := HLT.out; omega, by have := HLT.out; go_num, (HS2.out.congr (fun k hk => ?_) (fun k hk => ?_)), ?_, ?_, ?_, ?_⟩
            · rw [HMN.out, HA.out, HXX.out]; exact half_succ min lo0 x j k
            · rw [HMX.out, HBX.out, HXX.out]; exact half_succ max hi0 x j k
            · exact HTT.out.of_block ((Below.heap_setCell _ ⟨g2, j, none⟩ _ _ hgx.2).trans (Below.heap_setCell _ ⟨g1, j, none⟩ _ _ hgx.1))
            · exact ((HBt.out.setCell (p := ⟨g1, j, none⟩) (by simp only; omega) _).setCell (p := ⟨g2, j, none⟩) (by simp only; omega) _).drew
            · exact ((HKpt.out.setCell (p := ⟨g1, j, none⟩) (by simp only; omega) (Ne.symm hgB.1) _).setCell (p := ⟨g2, j, none⟩) (by simp only; omega) (Ne.symm hgB.2) _).drewN
            · exact HKft.out.trans ((((KeepsOthers.setCell _ _ _).trans (KeepsOthers.setCell _ _ _)).trans (KeepsOthers.drew _)).from _)
          case measure => have := HLT.out; simp [intOf]; omega
        · obtain rfl : j = bl := by omega
          have HEE := hide hEI
          have HBt := hide hB
          have HKpt := hide hKp
          have HKft := hide hKf
          have z1 := hEI.row1.lt
          have z2 := hEI.row2.lt
          clear hEI hT hB hKp hKf
          gi_wp2_with fail
          refine ⟨HKft.out, HKpt.out, wr.heap.size, Nat.le_refl _, .inr ⟨by simp, g1, g2, hgB, ?_⟩, HBt.out⟩
          have E := HEE.out
          refine ⟨E.low, E.high, E.err, E.row1.congr (fun k hk => ?_), E.row2.congr (fun k hk => ?_), E.far1, E.far2, E.apart, z1, z2⟩
          · have e := half_all min lo0 x k (by rw [HSL.out.1]; exact hk)
            rw [HSL.out.1] at e
            rw [e, ← HLOW.out]
          · have e := half_all max hi0 x k (by rw [HSH.out.1]; exact hk)
            rw [HSH.out.1] at e
            rw [e, ← HHIGH.out]
end Go.Proofs.Ytmefgejggpimeaa.V
