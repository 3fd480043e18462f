/-
  Contract: points.Ahead.
-/
import Derived.Test.YtmefgejggpimeaaPtNth
namespace Go.Proofs.Ytmefgejggpimeaa.V
open Go.RowKit Go.Shelf
attribute [local go_sem] Oper.semAt_some
set_option linter.unusedVariables false

theorem keeps_drewN (W : World) (n : Nat) : KeepsOthers W (W.drewN n) := ⟨Nat.le_refl _, fun _ _ h _ => h⟩
def aheadN (L : List (List Int)) (xs : List Int) : Nat := if xs ∈ L then L.idxOf xs else 0
def aheadE (L : List (List Int)) (xs : List Int) : Int := if xs ∈ L then 0 else 9
theorem ahead_here {L pre post : List (List Int)} {x : List Int} (hL : L = pre ++ x :: post) (hn : x ∉ pre) : aheadN L x = pre.length ∧ aheadE L x = 0 := by
  have h : x ∈ L := by rw [hL]; simp
  refine ⟨?_, by simp [aheadE, h]⟩
  rw [aheadN, if_pos h, hL, List.idxOf_append, if_neg hn]
  simp
theorem ahead_none {L : List (List Int)} {x : List Int} (h : x ∉ L) : aheadN L x = 0 ∧ aheadE L x = 9 := by simp [aheadN, aheadE, h]

set_option maxHeartbeats 1000000 in
theorem ahead_bad (ba : Option Addr) (bl bc : Nat) (box : List Int) (ra : Option Addr) (rl rc : Nat) (rs : List (List Int × Int)) (xa : Option Addr) (xl xc : Nat) (xs : List Int) (w : World) (h : Ints w ba bl box) (hr : Rws w ra rl rs) (hE : ptE box rs ≠ 0) :
    Calls Try.prog 17 #[.agg #[.slice ba bl bc, .slice ra rl rc], .slice xa xl xc] w fun e w' => e = .returned (.tuple #[.int .i64 0, .int .i64 (ptE box rs)]) ∧ Below w.heap.size w w' := by
  have B1 : Below w.heap.size w ((((w.alloc (.cells #[.slice ba bl bc, .slice ra rl rc] 25)).alloc (.cells #[.slice xa xl xc] 22)).alloc (.cells #[.int .i64 0] 3)).alloc (.cells #[.int .i64 0] 26)) := bl_on (bl_new _) (bl_on (bl_new _) (bl_on (bl_new _) (bl_new _)))
  have R4 := (Boxed.new ((w.alloc (.cells #[.slice ba bl bc, .slice ra rl rc] 25)).alloc (.cells #[.slice xa xl xc] 22)) 3 (.int .i64 0)).alloc (.cells #[.int .i64 0] 26)
  have R5 := Boxed.new (((w.alloc (.cells #[.slice ba bl bc, .slice ra rl rc] 25)).alloc (.cells #[.slice xa xl xc] 22)).alloc (.cells #[.int .i64 0] 3)) 26 (.int .i64 0)
  simp only [World.size_alloc] at R4 R5
  have HW := hide (ptWrong_any ba bl bc box ra rl rc rs _ (h.below B1) (hr.below B1))
  have HB := hide B1
  have HR4 := hide R4
  have HR5 := hide R5
  have c2 : (ptE box rs != 0) = true := by simpa using hE
  clear h hr B1 hE R4 R5
  go_enter Try.func17, Try.ntmps17
  go_wp2_with (go_at_call 10; refine HW.out.mono ?_; rintro e w1 ⟨rfl, hb⟩; have HB1 := hide (bl_on HB.out hb); have q4 := (hb.block _ HR4.out.lt).trans HR4.out; have q5 := (hb.block _ HR5.out.lt).trans HR5.out; have q6 := Boxed.cell q4; have q7 := Boxed.frozen q4; have q8 := Boxed.cell q5; have q9 := Boxed.frozen q5; have z4 := Boxed.lt q4; have z5 := Boxed.lt q5; have Q4 := hide q4; have Q5 := hide q5; clear hb q4 q5)
  refine bodyPost_ret (v := .tuple #[.int .i64 0, .int .i64 (ptE box rs)]) (by simp [results, Try.results17, go_sem, q6, q8]) rfl ⟨rfl, ?_⟩
  exact (HB1.out.setCell (p := ⟨w.heap.size + 1 + 1, 0, none⟩) (by simp; omega) _).setCell (p := ⟨w.heap.size + 1 + 1 + 1, 0, none⟩) (by simp; omega) _
set_option maxHeartbeats 1000000 in
theorem ahead_shape (ba : Option Addr) (bl bc : Nat) (box : List Int) (ra : Option Addr) (rl rc : Nat) (rs : List (List Int × Int)) (xa : Option Addr) (xl xc : Nat) (xs : List Int) (w : World) (h : Ints w ba bl box) (hr : Rws w ra rl rs) (hX : Ints w xa xl xs) (hE : ptE box rs = 0) (hs : xs.length ≠ box.length) :
    Calls Try.prog 17 #[.agg #[.slice ba bl bc, .slice ra rl rc], .slice xa xl xc] w fun e w' => e = .returned (.tuple #[.int .i64 0, .int .i64 6]) ∧ Below w.heap.size w w' := by
  have B1 : Below w.heap.size w ((((w.alloc (.cells #[.slice ba bl bc, .slice ra rl rc] 25)).alloc (.cells #[.slice xa xl xc] 22)).alloc (.cells #[.int .i64 0] 3)).alloc (.cells #[.int .i64 0] 26)) := bl_on (bl_new _) (bl_on (bl_new _) (bl_on (bl_new _) (bl_new _)))
  have R4 := (Boxed.new ((w.alloc (.cells #[.slice ba bl bc, .slice ra rl rc] 25)).alloc (.cells #[.slice xa xl xc] 22)) 3 (.int .i64 0)).alloc (.cells #[.int .i64 0] 26)
  have R5 := Boxed.new (((w.alloc (.cells #[.slice ba bl bc, .slice ra rl rc] 25)).alloc (.cells #[.slice xa xl xc] 22)).alloc (.cells #[.int .i64 0] 3)) 26 (.int .i64 0)
  simp only [World.size_alloc] at R4 R5
  have HW := hide (ptWrong_any ba bl bc box ra rl rc rs _ (h.below B1) (hr.below B1))
  have HB := hide B1
  have HR4 := hide R4
  have HR5 := hide R5
  have HE := hide hE
  have P1 := (((PtAt.new w ba bl bc ra rl rc).below (bl_new (.cells #[.slice xa xl xc] 22))).below (bl_new (.cells #[.int .i64 0] 3))).below (bl_new (.cells #[.int .i64 0] 26))
  have R3 := ((Boxed.new (w.alloc (.cells #[.slice ba bl bc, .slice ra rl rc] 25)) 22 (.slice xa xl xc)).alloc (.cells #[.int .i64 0] 3)).alloc (.cells #[.int .i64 0] 26)
  simp only [World.size_alloc] at R3
  have HR3 := hide R3
  have HP1 := hide P1
  have hm1 := hX.2.1
  have hm2 := h.2.1
  have c2 : ((xl : Int) != (bl : Int)) = true := by have := hX.1; have := h.1; simp; omega
  clear h hr B1 hE R4 R5 R3 P1 hX hs
  go_enter Try.func17, Try.ntmps17
  go_wp2_with (go_at_call 10; refine HW.out.mono ?_; rintro e w1 ⟨rfl, hb⟩; rw [HE.out]; have P1 := HP1.out.below hb; obtain ⟨p0, p1⟩ := P1.cells; have zP := P1.lt; have q3 := Boxed.cell ((hb.block _ HR3.out.lt).trans HR3.out); have HB1 := hide (bl_on HB.out hb); have q4 := (hb.block _ HR4.out.lt).trans HR4.out; have q5 := (hb.block _ HR5.out.lt).trans HR5.out; have q6 := Boxed.cell q4; have q7 := Boxed.frozen q4; have q8 := Boxed.cell q5; have q9 := Boxed.frozen q5; have z4 := Boxed.lt q4; have z5 := Boxed.lt q5; have Q4 := hide q4; have Q5 := hide q5; clear hb q4 q5 P1)
  refine bodyPost_ret (v := .tuple #[.int .i64 0, .int .i64 6]) (by simp [results, Try.results17, go_sem, q6, q8]) rfl ⟨rfl, ?_⟩
  exact (HB1.out.setCell (p := ⟨w.heap.size + 1 + 1, 0, none⟩) (by simp; omega) _).setCell (p := ⟨w.heap.size + 1 + 1 + 1, 0, none⟩) (by simp; omega) _
set_option maxRecDepth 100000 in
set_option maxHeartbeats 4000000 in
theorem ahead_ok (ba : Option Addr) (bl bc : Nat) (box : List Int) (ra : Option Addr) (rl rc : Nat) (rs : List (List Int × Int)) (xa : Option Addr) (xl xc : Nat) (xs : List Int) (w : World) (h : Ints w ba bl box) (hr : Rws w ra rl rs) (hX : Ints w xa xl xs) (hE : ptE box rs = 0) (hs : xs.length = box.length) :
    CallsIn FW 8 Try.prog 17 #[.agg #[.slice ba bl bc, .slice ra rl rc], .slice xa xl xc] w fun e w' => e = .returned (.tuple #[.int .i64 (aheadN (pts box rs) xs : Nat), .int .i64 (aheadE (pts box rs) xs)]) ∧ Below w.heap.size w w' := by
  have hro : FW.round = none := rfl
  have ho := ptE_ok hE
  have B1 : Below w.heap.size w ((((w.alloc (.cells #[.slice ba bl bc, .slice ra rl rc] 25)).alloc (.cells #[.slice xa xl xc] 22)).alloc (.cells #[.int .i64 0] 3)).alloc (.cells #[.int .i64 0] 26)) := bl_on (bl_new _) (bl_on (bl_new _) (bl_on (bl_new _) (bl_new _)))
  have P1 := (((PtAt.new w ba bl bc ra rl rc).below (bl_new (.cells #[.slice xa xl xc] 22))).below (bl_new (.cells #[.int .i64 0] 3))).below (bl_new (.cells #[.int .i64 0] 26))
  have R3 := ((Boxed.new (w.alloc (.cells #[.slice ba bl bc, .slice ra rl rc] 25)) 22 (.slice xa xl xc)).alloc (.cells #[.int .i64 0] 3)).alloc (.cells #[.int .i64 0] 26)
  have R4 := (Boxed.new ((w.alloc (.cells #[.slice ba bl bc, .slice ra rl rc] 25)).alloc (.cells #[.slice xa xl xc] 22)) 3 (.int .i64 0)).alloc (.cells #[.int .i64 0] 26)
  have R5 := Boxed.new (((w.alloc (.cells #[.slice ba bl bc, .slice ra rl rc] 25)).alloc (.cells #[.slice xa xl xc] 22)).alloc (.cells #[.int .i64 0] 3)) 26 (.int .i64 0)
  simp only [World.size_alloc] at R3 R4 R5
  have HW := hide (ptWrong_any ba bl bc box ra rl rc rs _ (h.below B1) (hr.below B1))
  have HP1 := hide P1
  have HB := hide B1
  have HR3 := hide R3
  have HR4 := hide R4
  have HR5 := hide R5
  have HE := hide hE
  have HX := hide hX
  obtain rfl : bl = xl := by have := hX.1; have := h.1; omega
  have hm1 := hX.2.1
  have zero := hide (rfl : (0 : Nat) = 0)
  have H := hide h
  have HR := hide hr
  have HO := hide ho
  have HLN := hide (pts_len ho)
  clear h hr B1 hE ho P1 R3 R4 R5 hX hs zero
  refine callsIn_of_wp_marks Try.func17 rfl trivial ?_ hro
  simp only [Try.ntmps17, List.size_toArray, List.length_cons, List.length_nil, Nat.reduceAdd, Nat.reduceSub, Array.replicate_succ, Array.replicate_zero, List.push_toArray, List.append_toArray, List.nil_append, List.cons_append]
  gi_wp2_with (first
    | (refine ⟨trivial, ?_⟩; gi_at_call 10; refine (callsIn_wide.2 HW.out).mono ?_; rintro e w1 ⟨rfl, hb⟩; rw [HE.out]; have HB1 := hide (bl_on HB.out hb); have P1 := HP1.out.below hb; have HPP := hide P1; obtain ⟨p0, p1⟩ := P1.cells; have zP := P1.lt; have Q3 := hide ((hb.block _ HR3.out.lt).trans HR3.out); have Q4 := hide ((hb.block _ HR4.out.lt).trans HR4.out); have Q5 := hide ((hb.block _ HR5.out.lt).trans HR5.out); have z5 := Boxed.lt Q5.out; have q3 := Boxed.cell Q3.out; clear hb P1)
    | (refine ⟨trivial, ?_⟩; gi_at_call 25; refine (callsIn_wide.2 (ptThrough_any _ _ _ _ _ _ _)).mono ?_; rintro e w2 ⟨rfl, rfl⟩))
  have bC := (Boxed.new w1 3 (.int .i64 0)).alloc (.cells #[.slice ba bl bc, .slice ra rl rc] 25)
  have b3 := (Boxed.alloc Q3.out (.cells #[.int .i64 0] 3)).alloc (.cells #[.slice ba bl bc, .slice ra rl rc] 25)
  have b4 := (Boxed.alloc Q4.out (.cells #[.int .i64 0] 3)).alloc (.cells #[.slice ba bl bc, .slice ra rl rc] 25)
  have b5 := (Boxed.alloc Q5.out (.cells #[.int .i64 0] 3)).alloc (.cells #[.slice ba bl bc, .slice ra rl rc] 25)
  have bP := PtAt.new (w1.alloc (.cells #[.int .i64 0] 3)) ba bl bc ra rl rc
  rw [World.size_alloc] at bP
  have hB0 : Below w.heap.size w ((w1.alloc (.cells #[.int .i64 0] 3)).alloc (.cells #[.slice ba bl bc, .slice ra rl rc] 25)) := bl_on HB1.out (bl_on (bl_new _) (bl_new _))
  obtain ⟨W0, hW0⟩ : ∃ W0, (w1.alloc (.cells #[.int .i64 0] 3)).alloc (.cells #[.slice ba bl bc, .slice ra rl rc] 25) = W0 := ⟨_, rfl⟩
  have hsz : W0.heap.size = w1.heap.size + 2 := by rw [← hW0]; simp
  rw [hW0] at bC b3 b4 b5 bP hB0 ⊢
  clear hW0 p0 p1
  refine rangeFunc_tells (F := FW) (n := 8) hro (by omega) (gf := 39) (lb := #[.pointer (some ⟨w1.heap.size + 1, 0, none⟩)]) rfl trivial (enters_of Try.func39 (by kernel_rfl) rfl)
    (rest_tells 7 (by omega) w (w1.heap.size + 1) ba bl bc box ra rl rc rs HO.out H.out HR.out W0 ⟨bP, hB0⟩) Keep.trans (keep_b (by omega) (by omega)) (Below.refl _ _) rfl
    (fun pre W => ((Boxed W w1.heap.size 3 (.int .i64 (pre.length : Nat)) ∧ Boxed W (w.heap.size + 1) 22 (.slice xa bl xc)) ∧ (Boxed W (w.heap.size + 1 + 1) 3 (.int .i64 0) ∧ Boxed W (w.heap.size + 1 + 1 + 1) 26 (.int .i64 0))) ∧ xs ∉ pre ∧ Below w.heap.size w W)
    (fun c W => (c = .ret ∧ aheadE (pts box rs) xs = 0) ∧ (Boxed W (w.heap.size + 1 + 1) 3 (.int .i64 (aheadN (pts box rs) xs : Nat)) ∧ Boxed W (w.heap.size + 1 + 1 + 1) 26 (.int .i64 0)) ∧ Below w.heap.size w W)
    ?own ?ownx ⟨⟨⟨bC, b3⟩, b4, b5⟩, by simp, hB0⟩ ?a1 ?assign ?body ?done ?stop
  case assign =>
    intro l gx W K hK
    gi_wp2
    exact hK
  case own => exact OwnFrom.and (OwnFrom.and (OwnFrom.and (Own.from (boxed_own _ _ _) _) (Own.from (boxed_own _ _ _) _)) (OwnFrom.and (Own.from (boxed_own _ _ _) _) (Own.from (boxed_own _ _ _) _))) (OwnFrom.and (fun _ _ _ _ hs _ _ => hs) (ownFrom_below (Nat.le_refl _) (by omega)))
  case ownx => exact OwnFrom.and (fun _ _ _ _ hs _ _ => hs) (OwnFrom.and (OwnFrom.and (Own.from (boxed_own _ _ _) _) (Own.from (boxed_own _ _ _) _)) (ownFrom_below (Nat.le_refl _) (by omega)))
  case body =>
    rintro l pre x post gx W hL ⟨⟨⟨hb, hb3⟩, hb4, hb5⟩, hin, hB⟩ hT
    have c1 := hb.cell
    have c2 := hb.frozen
    have c3 := hb3.cell
    have c4 := hb4.cell
    have c5 := hb4.frozen
    have c6 := hb5.cell
    have c7 := hb5.frozen
    have hlt := hT.lt
    have hge := hT.1
    have hpl : pre.length < 4096 := by
      have h1 := HLN.out
      rw [hL] at h1
      simp only [List.length_append, List.length_cons] at h1
      omega
    have HL := hide hL
    have HI := hide hin
    have HT := hide hT
    have HBX := hide (And.intro (And.intro hb hb3) (And.intro hb4 hb5))
    have HBB := hide hB
    clear hb hb3 hb4 hb5 hB hL hT hin
    have HEQ := hide (equal_any xa bl xc xs (some ⟨gx, 0, none⟩) bl bl x W (HX.out.below HBB.out) HT.out.ints)
    by_cases hq : xs = x
    · have hq' : decide (xs = x) = true := by simpa using hq
      have HQ := hide hq'
      have HQ2 := hide hq
      clear hq hq'
      gi_wp2_with (refine ⟨trivial, ?_⟩; gi_at_call 30; refine (callsIn_wide.2 HEQ.out).mono ?_; rintro e w2 ⟨rfl, nn, rfl⟩; rw [HQ.out])
      obtain ⟨e1, e2⟩ := ahead_here (L := pts box rs) (pre := pre) (post := post) (x := xs) (by rw [HL.out, HQ2.out]) HI.out
      refine ⟨(KeepsOthers.trans (A := W) (B := W.drewN nn) (keeps_drewN W nn) ((KeepsOthers.setCell _ _ _).trans (KeepsOthers.setCell _ _ _))).from _, ⟨rfl, e2⟩, ⟨?_, ?_⟩, ?_⟩
      · rw [e1]
        exact boxed_setRow (Boxed.set (W := W.drewN nn) _ HBX.out.2.1) (by omega) _ _
      · exact Boxed.set _ (boxed_setRow (W := W.drewN nn) HBX.out.2.2 (by omega) _ _)
      · exact (((HBB.out.trans (below_drewN _ nn)).setCell (p := ⟨w.heap.size + 1 + 1, 0, none⟩) (by simp; omega) _).setCell (p := ⟨w.heap.size + 1 + 1 + 1, 0, none⟩) (by simp; omega) _)
    · have hq' : decide (xs = x) = false := by simpa using hq
      have HQ := hide hq'
      have HQ2 := hide hq
      clear hq hq'
      gi_wp2_with (refine ⟨trivial, ?_⟩; gi_at_call 30; refine (callsIn_wide.2 HEQ.out).mono ?_; rintro e w2 ⟨rfl, nn, rfl⟩; rw [HQ.out])
      refine ⟨(KeepsOthers.trans (A := W) (B := W.drewN nn) (keeps_drewN W nn) (KeepsOthers.setCell _ _ _)).from _, ?_, ⟨⟨?_, ?_⟩, ?_, ?_⟩, ?_, ?_⟩
      · exact (Keep.trans ⟨below_drewN _ nn, rfl⟩ ((Keep.refl _ _ (W.drewN nn)).setCell (p := ⟨w1.heap.size, 0, none⟩) (by simp; omega) (by simp) _))
      · have := Boxed.set (W := W.drewN nn) (.int .i64 ((pre.length : Int) + 1)) HBX.out.1.1
        simpa using this
      · exact boxed_setRow (W := W.drewN nn) HBX.out.1.2 (by omega) _ _
      · exact boxed_setRow (W := W.drewN nn) HBX.out.2.1 (by omega) _ _
      · exact boxed_setRow (W := W.drewN nn) HBX.out.2.2 (by omega) _ _
      · intro hm
        rcases List.mem_append.1 hm with hm | hm
        · exact HI.out hm
        · exact HQ2.out (by simpa using hm)
      · exact (HBB.out.trans (below_drewN _ nn)).setCell (p := ⟨w1.heap.size, 0, none⟩) (by simp; omega) _
  case done =>
    rintro D W hD ⟨⟨⟨hb, hb3⟩, hb4, hb5⟩, hin, hB⟩ hK
    have c4 := hb4.cell
    have c5 := hb4.frozen
    have c6 := hb5.cell
    have c7 := hb5.frozen
    have HBX := hide (And.intro hb4 hb5)
    have HBB := hide hB
    have HK := hide hK
    have HI := hide hin
    have zD := (Array.getElem?_eq_some_iff.1 hK).1
    have hlw := hb5.lt
    clear hb hb3 hb4 hb5 hB hK hin
    gi_wp2
    have X4 := boxed_setRow (HBX.out.1.set (.int .i64 0)) (B := w.heap.size + 1 + 1) (b := w.heap.size + 1 + 1 + 1) (by omega) 0 (.int .i64 9)
    have X5 := (boxed_setRow HBX.out.2 (B := w.heap.size + 1 + 1 + 1) (b := w.heap.size + 1 + 1) (by omega) 0 (.int .i64 0)).set (.int .i64 9)
    have XB := (HBB.out.setCell (p := ⟨w.heap.size + 1 + 1, 0, none⟩) (by simp; omega) (.int .i64 0)).setCell (p := ⟨w.heap.size + 1 + 1 + 1, 0, none⟩) (by simp; omega) (.int .i64 9)
    have XK : (((W.setCell ⟨w.heap.size + 1 + 1, 0, none⟩ (.int .i64 0)).setCell ⟨w.heap.size + 1 + 1 + 1, 0, none⟩ (.int .i64 9))).heap[D]? = some (.deferred (some [])) := ((Below.heap_setCell _ ⟨w.heap.size + 1 + 1 + 1, 0, none⟩ _ D (by simp; omega)).trans (Below.heap_setCell _ ⟨w.heap.size + 1 + 1, 0, none⟩ _ D (by simp; omega))).trans HK.out
    refine ⟨by simp, .inl ⟨_, _, rfl, run_takeDeferred XK, ?_⟩⟩
    have Y4 := Boxed.cell ((World.putObj_heap_other (o := .deferred none) (by omega : w.heap.size + 1 + 1 ≠ D)).trans X4)
    have Y5 := Boxed.cell ((World.putObj_heap_other (o := .deferred none) (by omega : w.heap.size + 1 + 1 + 1 ≠ D)).trans X5)
    obtain ⟨e1, e2⟩ := ahead_none (L := pts box rs) HI.out
    rw [e1, e2]
    exact ⟨.tuple #[.int .i64 0, .int .i64 9], by simp [results, Try.results17, go_sem, Y4, Y5], rfl, XB.trans (belowK_b (w := w) (Nat.le_refl _) _ D _ _ (by omega) XK rfl rfl)⟩
  case stop =>
    rintro D c W hD ⟨⟨rfl, he⟩, ⟨hb4, hb5⟩, hB⟩ hK
    have HBX := hide (And.intro hb4 hb5)
    have HBB := hide hB
    have HK := hide hK
    have HEE := hide he
    have hlw := hb5.lt
    clear hb4 hb5 hB hK he
    gi_wp2
    refine ⟨by simp, .inl ⟨_, _, rfl, run_takeDeferred HK.out, ?_⟩⟩
    have Y4 := Boxed.cell ((World.putObj_heap_other (o := .deferred none) (by omega : w.heap.size + 1 + 1 ≠ D)).trans HBX.out.1)
    have Y5 := Boxed.cell ((World.putObj_heap_other (o := .deferred none) (by omega : w.heap.size + 1 + 1 + 1 ≠ D)).trans HBX.out.2)
    rw [HEE.out]
    exact ⟨.tuple #[.int .i64 (aheadN (pts box rs) xs : Nat), .int .i64 0], by simp [results, Try.results17, go_sem, Y4, Y5], rfl, HBB.out.trans (belowK_b (w := w) (Nat.le_refl _) W D _ _ (by omega) HK.out rfl rfl)⟩
end Go.Proofs.Ytmefgejggpimeaa.V
