/-
  Contracts: points.Nth, points.Ahead.
-/
import Derived.Test.YtmefgejggpimeaaPtCount
import Derived.Test.YtmefgejggpimeaaSameLists
namespace Go.Proofs.Ytmefgejggpimeaa.V
open Go.RowKit Go.Shelf
attribute [local go_sem] Oper.semAt_some
set_option linter.unusedVariables false

def ptIn (n : Int) (len : Nat) : Bool := decide (0 ≤ n) && decide (n < len)
def nthL (L : List (List Int)) (n : Int) : List Int := if ptIn n L.length = true then L[n.toNat]?.getD [] else []
def nthE (L : List (List Int)) (n : Int) : Int := if ptIn n L.length = true then 0 else 9
theorem nth_here {L pre post : List (List Int)} {x : List Int} {n : Int} (hL : L = pre ++ x :: post) (hn : (pre.length : Int) = n) : nthL L n = x ∧ nthE L n = 0 := by
  have h : ptIn n L.length = true := by simp [ptIn, hL]; omega
  refine ⟨?_, by simp [nthE, h]⟩
  rw [nthL, if_pos h, hL, ← hn]
  simp
theorem nth_none {L : List (List Int)} {n : Int} (h : ptIn n L.length = false) : nthL L n = [] ∧ nthE L n = 9 := by simp [nthL, nthE, h]
theorem ptIn_succ {n : Int} {len : Nat} (h : ptIn n len = false) (hn : (len : Int) ≠ n) : ptIn n (len + 1) = false := by
  simp [ptIn] at h ⊢; omega

set_option maxHeartbeats 1000000 in
theorem nth_bad (ba : Option Addr) (bl bc : Nat) (box : List Int) (ra : Option Addr) (rl rc : Nat) (rs : List (List Int × Int)) (n : Int) (w : World) (h : Ints w ba bl box) (hr : Rws w ra rl rs) (hE : ptE box rs ≠ 0) :
    Calls Try.prog 15 #[.agg #[.slice ba bl bc, .slice ra rl rc], .int .i64 n] w fun e w' => e = .returned (.tuple #[.slice none 0 0, .int .i64 (ptE box rs)]) ∧ Below w.heap.size w w' := by
  have B1 : Below w.heap.size w ((((w.alloc (.cells #[.slice ba bl bc, .slice ra rl rc] 25)).alloc (.cells #[.int .i64 n] 3)).alloc (.cells #[.slice none 0 0] 22)).alloc (.cells #[.int .i64 0] 26)) := bl_on (bl_new _) (bl_on (bl_new _) (bl_on (bl_new _) (bl_new _)))
  have R4 := (Boxed.new ((w.alloc (.cells #[.slice ba bl bc, .slice ra rl rc] 25)).alloc (.cells #[.int .i64 n] 3)) 22 (.slice none 0 0)).alloc (.cells #[.int .i64 0] 26)
  have R5 := Boxed.new (((w.alloc (.cells #[.slice ba bl bc, .slice ra rl rc] 25)).alloc (.cells #[.int .i64 n] 3)).alloc (.cells #[.slice none 0 0] 22)) 26 (.int .i64 0)
  simp only [World.size_alloc] at R4 R5
  have HW := hide (ptWrong_any ba bl bc box ra rl rc rs _ (h.below B1) (hr.below B1))
  have HB := hide B1
  have HR4 := hide R4
  have HR5 := hide R5
  have c2 : (ptE box rs != 0) = true := by simpa using hE
  clear h hr B1 hE R4 R5
  go_enter Try.func15, Try.ntmps15
  go_wp2_with (go_at_call 10; refine HW.out.mono ?_; rintro e w1 ⟨rfl, hb⟩; have HB1 := hide (bl_on HB.out hb); have q4 := (hb.block _ HR4.out.lt).trans HR4.out; have q5 := (hb.block _ HR5.out.lt).trans HR5.out; have q6 := Boxed.cell q4; have q7 := Boxed.frozen q4; have q8 := Boxed.cell q5; have q9 := Boxed.frozen q5; have z4 := Boxed.lt q4; have z5 := Boxed.lt q5; have Q4 := hide q4; have Q5 := hide q5; clear hb q4 q5)
  refine bodyPost_ret (v := .tuple #[.slice none 0 0, .int .i64 (ptE box rs)]) (by simp [results, Try.results15, go_sem, q6, q8]) rfl ⟨rfl, ?_⟩
  exact (HB1.out.setCell (p := ⟨w.heap.size + 1 + 1, 0, none⟩) (by simp; omega) _).setCell (p := ⟨w.heap.size + 1 + 1 + 1, 0, none⟩) (by simp; omega) _
/-- What is there when the point is found. -/
def NthAt (w : World) (bl : Nat) (x : List Int) (c : Code) (W : World) : Prop := (c = .ret ∧ ∃ gx, Told w.heap.size gx bl x W ∧ w.heap.size + 4 ≤ gx ∧ Boxed W (w.heap.size + 1 + 1) 22 (.slice (some ⟨gx, 0, none⟩) bl bl)) ∧ Boxed W (w.heap.size + 1 + 1 + 1) 26 (.int .i64 0) ∧ Below w.heap.size w W
theorem told_own (B : Nat) (w : World) (bl : Nat) (x : List Int) : OwnFrom B (fun (c : Code) W => c = .ret ∧ ∃ gx, Told w.heap.size gx bl x W ∧ w.heap.size + 4 ≤ gx ∧ Boxed W (w.heap.size + 1 + 1) 22 (.slice (some ⟨gx, 0, none⟩) bl bl)) := by
  rintro s W W' row ⟨rfl, gx, h1, h3, h2⟩ hg hr
  refine ⟨rfl, gx, h1.of_block (hg.block _ h1.lt ?_), h3, (hg.block _ h2.lt ?_).trans h2⟩
  · intro e
    obtain ⟨_, o, ho, hc⟩ := hr _ e.symm
    obtain ⟨cur, hb, _⟩ := h1.2.1
    rw [hb] at ho; cases ho; cases hc
  · intro e
    obtain ⟨_, o, ho, hc⟩ := hr _ e.symm
    rw [h2] at ho; cases ho; cases hc

set_option maxRecDepth 100000 in
set_option maxHeartbeats 4000000 in
theorem nth_ok (ba : Option Addr) (bl bc : Nat) (box : List Int) (ra : Option Addr) (rl rc : Nat) (rs : List (List Int × Int)) (n : Int) (w : World) (h : Ints w ba bl box) (hr : Rws w ra rl rs) (hE : ptE box rs = 0) :
    CallsIn FW 8 Try.prog 15 #[.agg #[.slice ba bl bc, .slice ra rl rc], .int .i64 n] w fun e w' => (∃ a l c, e = .returned (.tuple #[.slice a l c, .int .i64 (nthE (pts box rs) n)]) ∧ Ints w' a l (nthL (pts box rs) n)) ∧ Below w.heap.size w w' := by
  have hro : FW.round = none := rfl
  have ho := ptE_ok hE
  have B1 : Below w.heap.size w ((((w.alloc (.cells #[.slice ba bl bc, .slice ra rl rc] 25)).alloc (.cells #[.int .i64 n] 3)).alloc (.cells #[.slice none 0 0] 22)).alloc (.cells #[.int .i64 0] 26)) := bl_on (bl_new _) (bl_on (bl_new _) (bl_on (bl_new _) (bl_new _)))
  have P1 := (((PtAt.new w ba bl bc ra rl rc).below (bl_new (.cells #[.int .i64 n] 3))).below (bl_new (.cells #[.slice none 0 0] 22))).below (bl_new (.cells #[.int .i64 0] 26))
  have R3 := ((Boxed.new (w.alloc (.cells #[.slice ba bl bc, .slice ra rl rc] 25)) 3 (.int .i64 n)).alloc (.cells #[.slice none 0 0] 22)).alloc (.cells #[.int .i64 0] 26)
  have R4 := (Boxed.new ((w.alloc (.cells #[.slice ba bl bc, .slice ra rl rc] 25)).alloc (.cells #[.int .i64 n] 3)) 22 (.slice none 0 0)).alloc (.cells #[.int .i64 0] 26)
  have R5 := Boxed.new (((w.alloc (.cells #[.slice ba bl bc, .slice ra rl rc] 25)).alloc (.cells #[.int .i64 n] 3)).alloc (.cells #[.slice none 0 0] 22)) 26 (.int .i64 0)
  simp only [World.size_alloc] at R3 R4 R5
  have HW := hide (ptWrong_any ba bl bc box ra rl rc rs _ (h.below B1) (hr.below B1))
  have HP1 := hide P1
  have HB := hide B1
  have HR3 := hide R3
  have HR4 := hide R4
  have HR5 := hide R5
  have HE := hide hE
  have H := hide h
  have HR := hide hr
  have HO := hide ho
  have HLN := hide (pts_len ho)
  clear h hr B1 hE ho P1 R3 R4 R5
  refine callsIn_of_wp_marks Try.func15 rfl trivial ?_ hro
  simp only [Try.ntmps15, List.size_toArray, List.length_cons, List.length_nil, Nat.reduceAdd, Nat.reduceSub, Array.replicate_succ, Array.replicate_zero, List.push_toArray, List.append_toArray, List.nil_append, List.cons_append]
  gi_wp2_with (first
    | (refine ⟨trivial, ?_⟩; gi_at_call 10; refine (callsIn_wide.2 HW.out).mono ?_; rintro e w1 ⟨rfl, hb⟩; rw [HE.out]; have HB1 := hide (bl_on HB.out hb); have P1 := HP1.out.below hb; have HPP := hide P1; obtain ⟨p0, p1⟩ := P1.cells; have zP := P1.lt; have Q3 := hide ((hb.block _ HR3.out.lt).trans HR3.out); have Q4 := hide ((hb.block _ HR4.out.lt).trans HR4.out); have Q5 := hide ((hb.block _ HR5.out.lt).trans HR5.out); have z5 := Boxed.lt Q5.out; clear hb P1)
    | (refine ⟨trivial, ?_⟩; gi_at_call 25; refine (callsIn_wide.2 (ptThrough_any _ _ _ _ _ _ _)).mono ?_; rintro e w2 ⟨rfl, rfl⟩))
  have bC := (Boxed.new w1 3 (.int .i64 0)).alloc (.cells #[.slice ba bl bc, .slice ra rl rc] 25)
  have b3 := (Boxed.alloc Q3.out (.cells #[.int .i64 0] 3)).alloc (.cells #[.slice ba bl bc, .slice ra rl rc] 25)
  have b4 := (Boxed.alloc Q4.out (.cells #[.int .i64 0] 3)).alloc (.cells #[.slice ba bl bc, .slice ra rl rc] 25)
  have b5 := (Boxed.alloc Q5.out (.cells #[.int .i64 0] 3)).alloc (.cells #[.slice ba bl bc, .slice ra rl rc] 25)
  have bP := PtAt.new (w1.alloc (.cells #[.int .i64 0] 3)) ba bl bc ra rl rc
  rw [World.size_alloc] at bP
  have hB0 : Below w.heap.size w ((w1.alloc (.cells #[.int .i64 0] 3)).alloc (.cells #[.slice ba bl bc, .slice ra rl rc] 25)) := bl_on HB1.out (bl_on (bl_new _) (bl_new _))
  obtain ⟨W0, hW0⟩ : ∃ W0, (w1.alloc (.cells #[.int .i64 0] 3)).alloc (.cells #[.slice ba bl bc, .slice ra rl rc] 25) = W0 := ⟨_, rfl⟩
  have hsz : W0.heap.size = w1.heap.size + 2 := by rw [← hW0]; simp
  rw [hW0] at bC b3 b4 b5 bP hB0 ⊢
  clear hW0 p0 p1
  refine rangeFunc_tells (F := FW) (n := 8) hro (by omega) (gf := 39) (lb := #[.pointer (some ⟨w1.heap.size + 1, 0, none⟩)]) rfl trivial (enters_of Try.func39 (by kernel_rfl) rfl)
    (rest_tells 7 (by omega) w (w1.heap.size + 1) ba bl bc box ra rl rc rs HO.out H.out HR.out W0 ⟨bP, hB0⟩) Keep.trans (keep_b (by omega) (by omega)) (Below.refl _ _) rfl
    (fun pre W => ((Boxed W w1.heap.size 3 (.int .i64 (pre.length : Nat)) ∧ Boxed W (w.heap.size + 1) 3 (.int .i64 n)) ∧ (Boxed W (w.heap.size + 1 + 1) 22 (.slice none 0 0) ∧ Boxed W (w.heap.size + 1 + 1 + 1) 26 (.int .i64 0))) ∧ ptIn n pre.length = false ∧ Below w.heap.size w W)
    (fun c W => (nthE (pts box rs) n = 0) ∧ NthAt w bl (nthL (pts box rs) n) c W)
    ?own ?ownx ⟨⟨⟨bC, b3⟩, b4, b5⟩, by simp [ptIn], hB0⟩ ?a1 ?assign ?body ?done ?stop
  case assign =>
    intro l gx W K hK
    gi_wp2
    exact hK
  case own => exact OwnFrom.and (OwnFrom.and (OwnFrom.and (Own.from (boxed_own _ _ _) _) (Own.from (boxed_own _ _ _) _)) (OwnFrom.and (Own.from (boxed_own _ _ _) _) (Own.from (boxed_own _ _ _) _))) (OwnFrom.and (fun _ _ _ _ hs _ _ => hs) (ownFrom_below (Nat.le_refl _) (by omega)))
  case ownx => exact OwnFrom.and (fun _ _ _ _ hs _ _ => hs) (OwnFrom.and (told_own _ w bl _) (OwnFrom.and (Own.from (boxed_own _ _ _) _) (ownFrom_below (Nat.le_refl _) (by omega))))
  case body =>
    rintro l pre x post gx W hL ⟨⟨⟨hb, hb3⟩, hb4, hb5⟩, hin, hB⟩ hT
    have c1 := hb.cell
    have c2 := hb.frozen
    have c3 := hb3.cell
    have c4 := hb4.cell
    have c5 := hb4.frozen
    have c6 := hb5.cell
    have c7 := hb5.frozen
    have hlt := hT.lt
    have hge := hT.1
    have hpl : pre.length < 4096 := by
      have h1 := HLN.out
      rw [hL] at h1
      simp only [List.length_append, List.length_cons] at h1
      omega
    have HL := hide hL
    have HI := hide hin
    have HT := hide hT
    have HBX := hide (And.intro (And.intro hb hb3) (And.intro hb4 hb5))
    have HBB := hide hB
    clear hb hb3 hb4 hb5 hB hL hT hin
    by_cases hq : (pre.length : Int) = n
    · have hq' : ((pre.length : Int) == n) = true := by simpa using hq
      have HQ := hide hq
      clear hq
      gi_wp2
      refine ⟨((KeepsOthers.setCell _ _ _).trans (KeepsOthers.setCell _ _ _)).from _, (nth_here HL.out HQ.out).2, ⟨rfl, gx, ?_, by omega, ?_⟩, ?_, ?_⟩
      · rw [(nth_here HL.out HQ.out).1]
        exact ((HT.out.of_block (Below.heap_setCell _ ⟨w.heap.size + 1 + 1, 0, none⟩ _ _ (by simp; omega))).of_block (Below.heap_setCell _ ⟨w.heap.size + 1 + 1 + 1, 0, none⟩ _ _ (by simp; omega))).mono (by omega)
      · exact boxed_setRow (HBX.out.2.1.set _) (by omega) _ _
      · exact (boxed_setRow HBX.out.2.2 (by omega) _ _).set _
      · exact (HBB.out.setCell (p := ⟨w.heap.size + 1 + 1, 0, none⟩) (by simp; omega) _).setCell (p := ⟨w.heap.size + 1 + 1 + 1, 0, none⟩) (by simp; omega) _
    · have hq' : ((pre.length : Int) == n) = false := by simpa using hq
      have HQ := hide hq
      clear hq
      gi_wp2
      refine ⟨(KeepsOthers.setCell _ _ _).from _, ?_, ⟨⟨?_, ?_⟩, ?_, ?_⟩, ?_, ?_⟩
      · exact (Keep.refl _ _ W).setCell (p := ⟨w1.heap.size, 0, none⟩) (by simp; omega) (by simp) _
      · have := HBX.out.1.1.set (.int .i64 ((pre.length : Int) + 1))
        simpa using this
      · exact boxed_setRow HBX.out.1.2 (by omega) _ _
      · exact boxed_setRow HBX.out.2.1 (by omega) _ _
      · exact boxed_setRow HBX.out.2.2 (by omega) _ _
      · rw [List.length_append]; exact ptIn_succ HI.out HQ.out
      · exact HBB.out.setCell (p := ⟨w1.heap.size, 0, none⟩) (by simp; omega) _
  case done =>
    rintro D W hD ⟨⟨⟨hb, hb3⟩, hb4, hb5⟩, hin, hB⟩ hK
    have c4 := hb4.cell
    have c5 := hb4.frozen
    have c6 := hb5.cell
    have c7 := hb5.frozen
    have HBX := hide (And.intro hb4 hb5)
    have HBB := hide hB
    have HK := hide hK
    have HI := hide hin
    have zD := (Array.getElem?_eq_some_iff.1 hK).1
    have hlw := hb5.lt
    clear hb hb3 hb4 hb5 hB hK hin
    gi_wp2
    have X4 := boxed_setRow (HBX.out.1.set (.slice none 0 0)) (B := w.heap.size + 1 + 1) (b := w.heap.size + 1 + 1 + 1) (by omega) 0 (.int .i64 9)
    have X5 := (boxed_setRow HBX.out.2 (B := w.heap.size + 1 + 1 + 1) (b := w.heap.size + 1 + 1) (by omega) 0 (.slice none 0 0)).set (.int .i64 9)
    have XB := (HBB.out.setCell (p := ⟨w.heap.size + 1 + 1, 0, none⟩) (by simp; omega) (.slice none 0 0)).setCell (p := ⟨w.heap.size + 1 + 1 + 1, 0, none⟩) (by simp; omega) (.int .i64 9)
    have XK : (((W.setCell ⟨w.heap.size + 1 + 1, 0, none⟩ (.slice none 0 0)).setCell ⟨w.heap.size + 1 + 1 + 1, 0, none⟩ (.int .i64 9))).heap[D]? = some (.deferred (some [])) := ((Below.heap_setCell _ ⟨w.heap.size + 1 + 1 + 1, 0, none⟩ _ D (by simp; omega)).trans (Below.heap_setCell _ ⟨w.heap.size + 1 + 1, 0, none⟩ _ D (by simp; omega))).trans HK.out
    refine ⟨by simp, .inl ⟨_, _, rfl, run_takeDeferred XK, ?_⟩⟩
    have Y4 := Boxed.cell ((World.putObj_heap_other (o := .deferred none) (by omega : w.heap.size + 1 + 1 ≠ D)).trans X4)
    have Y5 := Boxed.cell ((World.putObj_heap_other (o := .deferred none) (by omega : w.heap.size + 1 + 1 + 1 ≠ D)).trans X5)
    obtain ⟨e1, e2⟩ := nth_none (L := pts box rs) HI.out
    rw [e1, e2]
    exact ⟨.tuple #[.slice none 0 0, .int .i64 9], by simp [results, Try.results15, go_sem, Y4, Y5], ⟨none, 0, 0, rfl, ints_nil _⟩, XB.trans (belowK_b (w := w) (Nat.le_refl _) _ D _ _ (by omega) XK rfl rfl)⟩
  case stop =>
    rintro D c W hD ⟨he, ⟨rfl, gx, hT, hg4, hb4⟩, hb5, hB⟩ hK
    have HBX := hide (And.intro hb4 hb5)
    have HBB := hide hB
    have HK := hide hK
    have HT := hide hT
    have HEE := hide he
    have hne : gx ≠ D := by
      intro e
      obtain ⟨cur, hb, _⟩ := hT.2.1
      rw [e, hK] at hb; cases hb
    clear hb4 hb5 hB hK hT he
    gi_wp2
    refine ⟨by simp, .inl ⟨_, _, rfl, run_takeDeferred HK.out, ?_⟩⟩
    have Y4 := Boxed.cell ((World.putObj_heap_other (o := .deferred none) (by omega : w.heap.size + 1 + 1 ≠ D)).trans HBX.out.1)
    have Y5 := Boxed.cell ((World.putObj_heap_other (o := .deferred none) (by omega : w.heap.size + 1 + 1 + 1 ≠ D)).trans HBX.out.2)
    rw [HEE.out]
    exact ⟨.tuple #[.slice (some ⟨gx, 0, none⟩) bl bl, .int .i64 0], by simp [results, Try.results15, go_sem, Y4, Y5], ⟨_, _, _, rfl, (HT.out.of_block (World.putObj_heap_other hne)).ints⟩, HBB.out.trans (belowK_b (w := w) (Nat.le_refl _) W D _ _ (by omega) HK.out rfl rfl)⟩
end Go.Proofs.Ytmefgejggpimeaa.V
