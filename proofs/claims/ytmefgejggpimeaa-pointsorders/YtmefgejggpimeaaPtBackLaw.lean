/-
  PointsBack: the walk.
-/
import Derived.Test.YtmefgejggpimeaaPtAhead
namespace Go.Proofs.Ytmefgejggpimeaa.V
open Go.RowKit Go.Shelf
set_option linter.unusedVariables false

theorem nodup_map {f : Nat → List Int} {k : Nat} (h : ∀ i j, i < k → j < k → f i = f j → i = j) : ((List.range k).map f).Nodup := by
  rw [List.Nodup, List.pairwise_map]
  refine List.Pairwise.imp_of_mem ?_ List.nodup_range
  intro i j hi hj hne e
  exact hne (h i j (by simpa using hi) (by simpa using hj) e)
theorem pts_nodup {box : List Int} {rs : List (List Int × Int)} (ho : PtOk box rs) : (pts box rs).Nodup := by
  unfold pts upto
  refine List.Pairwise.filter _ (nodup_map fun i j hi hj e => ?_)
  have hg := (index_good (xs := box) (p := i) ho.size.2.1 (by omega) (by rw [ho.size.2.2.1]; omega)).1
  have hp : ∀ x ∈ box, 1 ≤ x := fun x hx => (hg x hx).1
  have h1 := place_index (p := (i : Int)) hp (by omega) (by omega)
  have h2 := place_index (p := (j : Int)) hp (by omega) (by omega)
  rw [e] at h1
  omega
theorem idxOf_nth {L : List (List Int)} (hL : L.Nodup) {n : Int} (h : ptIn n L.length = true) : aheadE L (nthL L n) = 0 ∧ (aheadN L (nthL L n) : Int) = n := by
  have hn : 0 ≤ n ∧ n < L.length := by simpa [ptIn] using h
  have hlt : n.toNat < L.length := by omega
  have e : nthL L n = L[n.toNat] := by rw [nthL, if_pos h]; simp [hlt]
  have hm : L[n.toNat] ∈ L := List.getElem_mem hlt
  rw [e, aheadE, aheadN, if_pos hm, if_pos hm, List.Nodup.idxOf_getElem hL]
  omega
theorem nth_idxOf {L : List (List Int)} {xs : List Int} (h : aheadE L xs = 0) : nthE L (aheadN L xs : Nat) = 0 ∧ nthL L (aheadN L xs : Nat) = xs := by
  have hm : xs ∈ L := by
    by_cases hm : xs ∈ L
    · exact hm
    · simp [aheadE, hm] at h
  have hlt := List.idxOf_lt_length_of_mem hm
  have hb : ptIn (aheadN L xs : Nat) L.length = true := by simp [ptIn, aheadN, hm, hlt]
  refine ⟨by rw [nthE, if_pos hb], ?_⟩
  rw [nthL, if_pos hb]
  simp [aheadN, hm, hlt]
theorem nthL_len {box : List Int} {rs : List (List Int × Int)} (ho : PtOk box rs) {n : Int} (h : ptIn n (pts box rs).length = true) : (nthL (pts box rs) n).length = box.length := by
  have hn : 0 ≤ n ∧ n < (pts box rs).length := by simpa [ptIn] using h
  have hlt : n.toNat < (pts box rs).length := by omega
  have e : nthL (pts box rs) n = (pts box rs)[n.toNat] := by rw [nthL, if_pos h]; simp [hlt]
  obtain ⟨p, hp, hx, _⟩ := pts_mem (List.getElem_mem hlt)
  rw [e, hx]
  exact (index_bd ho hp).2

/-- The second part of the law: Ahead of any list, and the point there. -/
theorem ahead_calls (ba : Option Addr) (bl bc : Nat) (box : List Int) (ra : Option Addr) (rl rc : Nat) (rs : List (List Int × Int)) (xa : Option Addr) (xl xc : Nat) (xs : List Int) (w : World) (h : Ints w ba bl box) (hr : Rws w ra rl rs) (hX : Ints w xa xl xs) (hE : ptE box rs = 0) :
    Calls Try.prog 17 #[.agg #[.slice ba bl bc, .slice ra rl rc], .slice xa xl xc] w fun e w' => e = .returned (.tuple #[.int .i64 (if xs.length = box.length then aheadN (pts box rs) xs else 0 : Nat), .int .i64 (if xs.length = box.length then aheadE (pts box rs) xs else 6)]) ∧ Below w.heap.size w w' := by
  by_cases hs : xs.length = box.length
  · rw [if_pos hs, if_pos hs]
    exact callsIn_wide.1 (ahead_ok ba bl bc box ra rl rc rs xa xl xc xs w h hr hX hE hs)
  · rw [if_neg hs, if_neg hs]
    exact ahead_shape ba bl bc box ra rl rc rs xa xl xc xs w h hr hX hE hs

set_option maxHeartbeats 4000000 in
theorem pointsBack_walk (ba : Option Addr) (bl bc : Nat) (box : List Int) (ra : Option Addr) (rl rc : Nat) (rs : List (List Int × Int)) (n : Int) (xa : Option Addr) (xl xc : Nat) (xs : List Int) (w : World) (h : Ints w ba bl box) (hr : Rws w ra rl rs) (hX : Ints w xa xl xs) :
    Calls Try.prog 7 #[.agg #[.slice ba bl bc, .slice ra rl rc], .int .i64 n, .slice xa xl xc] w fun e w' => e = .returned (.bool true) ∧ Below w.heap.size w w' := by
  have B1 : Below w.heap.size w (w.alloc (.cells #[.slice ba bl bc, .slice ra rl rc] 25)) := bl_new _
  have HB := hide B1
  have HP1 := hide (PtAt.new w ba bl bc ra rl rc)
  have H := hide h
  have HR := hide hr
  have HX := hide hX
  by_cases hE : ptE box rs = 0
  · have ho := ptE_ok hE
    have HE := hide hE
    have HC := hide (callsIn_wide.1 (ptCount_ok ba bl bc box ra rl rc rs _ (h.below B1) (hr.below B1) hE))
    have HND := hide (pts_nodup ho)
    have hln := pts_len ho
    have HO := hide ho
    clear h hr hX B1 hE ho
    obtain ⟨M, hM⟩ : ∃ M, M = (pts box rs).length := ⟨_, rfl⟩
    rw [← hM] at HC hln
    have HM := hide hM
    clear hM
    go_enter Try.func7, Try.ntmps7
    go_wp2_with fail
    refine HC.out.mono ?_
    rintro e w1 ⟨rfl, hb⟩
    have B2 := bl_on HB.out hb
    have P2 := HP1.out.below hb
    have HB2 := hide B2
    have HP2 := hide P2
    obtain ⟨p0, p1⟩ := P2.cells
    have z2 := P2.lt
    clear hb B2 P2 HC
    go_wp2_with fail
    refine (callsIn_wide.1 (nth_ok ba bl bc box ra rl rc rs n w1 (H.out.below HB2.out) (HR.out.below HB2.out) HE.out)).mono ?_
    rintro e w2 ⟨⟨aa, al, ac, rfl, hi⟩, hb⟩
    have HB3 := hide (bl_on HB2.out hb)
    have P3 := HP2.out.below hb
    have HP3 := hide P3
    obtain ⟨p2, p3⟩ := P3.cells
    have z3 := P3.lt
    have HI := hide hi
    clear hb P3 p0 p1 z2 hi
    cases hin : ptIn n (pts box rs).length with
    | true =>
      have hn1 : 0 ≤ n ∧ n < M := by rw [HM.out]; simpa [ptIn] using hin
      have e1 : nthE (pts box rs) n = 0 := by rw [nthE, if_pos hin]
      rw [e1]
      have HIN := hide hin
      obtain ⟨hn2, hn3⟩ := hn1
      clear hin e1
      go_wp2_with fail
      refine (ahead_calls ba bl bc box ra rl rc rs aa al ac _ w2 (H.out.below HB3.out) (HR.out.below HB3.out) HI.out HE.out).mono ?_
      rintro e w3 ⟨rfl, hb⟩
      have hl := nthL_len HO.out HIN.out
      rw [if_pos hl, if_pos hl, (idxOf_nth HND.out HIN.out).1, (idxOf_nth HND.out HIN.out).2]
      have HB4 := hide (bl_on HB3.out hb)
      have P4 := HP3.out.below hb
      have HP4 := hide P4
      obtain ⟨p4, p5⟩ := P4.cells
      have z4 := P4.lt
      clear hb P4 p2 p3 z3 hl HI
      go_wp2_with fail
      refine (ahead_calls ba bl bc box ra rl rc rs xa xl xc xs w3 (H.out.below HB4.out) (HR.out.below HB4.out) (HX.out.below HB4.out) HE.out).mono ?_
      rintro e w4 ⟨rfl, hb⟩
      have HB5 := hide (bl_on HB4.out hb)
      have P5 := HP4.out.below hb
      obtain ⟨p6, p7⟩ := P5.cells
      have z5 := P5.lt
      clear hb P5
      by_cases hs : xs.length = box.length
      · rw [if_pos hs, if_pos hs]
        by_cases ha : aheadE (pts box rs) xs = 0
        · obtain ⟨a1, a2⟩ := nth_idxOf ha
          rw [ha]
          have A1 := hide a1
          have A2 := hide a2
          clear ha hs a1 a2
          go_wp2_with fail
          refine (callsIn_wide.1 (nth_ok ba bl bc box ra rl rc rs _ w4 (H.out.below HB5.out) (HR.out.below HB5.out) HE.out)).mono ?_
          rintro e w5 ⟨⟨da, dl, dc, rfl, hi⟩, hb⟩
          rw [A1.out]
          rw [A2.out] at hi
          have HI5 := hide hi
          have HB6 := hide (bl_on HB5.out hb)
          clear hi hb
          go_wp2_with fail
          refine (sameList_any da dl dc xs xa xl xc xs w5 HI5.out (HX.out.below HB6.out)).mono ?_
          rintro e w6 ⟨rfl, nn, rfl⟩
          simp only [decide_true]
          go_wp2_with fail
          go_ret
          exact ⟨rfl, HB6.out.trans (below_drewN _ nn)⟩
        · have ha' : (aheadE (pts box rs) xs != 0) = true := by simpa using ha
          clear ha hs
          go_wp2_with fail
          go_ret
          exact ⟨rfl, HB5.out⟩
      · rw [if_neg hs, if_neg hs]
        clear hs
        go_wp2_with fail
        go_ret
        exact ⟨rfl, HB5.out⟩
    | false =>
      have hn1 : n < 0 ∨ (0 ≤ n ∧ (M : Int) ≤ n) := by rw [HM.out]; simp [ptIn] at hin; omega
      have e1 : nthE (pts box rs) n = 9 := by rw [nthE, if_neg (by simp [hin])]
      rw [e1]
      clear hin e1 HI
      have HB4 := HB3
      have HP4 := HP3
      rcases hn1 with hn1 | ⟨hn1, hn2⟩
      · go_wp2_with fail
        refine (ahead_calls ba bl bc box ra rl rc rs xa xl xc xs w2 (H.out.below HB4.out) (HR.out.below HB4.out) (HX.out.below HB4.out) HE.out).mono ?_
        rintro e w4 ⟨rfl, hb⟩
        have HB5 := hide (bl_on HB4.out hb)
        have P5 := HP4.out.below hb
        obtain ⟨p6, p7⟩ := P5.cells
        have z5 := P5.lt
        clear hb P5
        by_cases hs : xs.length = box.length
        · rw [if_pos hs, if_pos hs]
          by_cases ha : aheadE (pts box rs) xs = 0
          · obtain ⟨a1, a2⟩ := nth_idxOf ha
            rw [ha]
            have A1 := hide a1
            have A2 := hide a2
            clear ha hs a1 a2
            go_wp2_with fail
            refine (callsIn_wide.1 (nth_ok ba bl bc box ra rl rc rs _ w4 (H.out.below HB5.out) (HR.out.below HB5.out) HE.out)).mono ?_
            rintro e w5 ⟨⟨da, dl, dc, rfl, hi⟩, hb⟩
            rw [A1.out]
            rw [A2.out] at hi
            have HI5 := hide hi
            have HB6 := hide (bl_on HB5.out hb)
            clear hi hb
            go_wp2_with fail
            refine (sameList_any da dl dc xs xa xl xc xs w5 HI5.out (HX.out.below HB6.out)).mono ?_
            rintro e w6 ⟨rfl, nn, rfl⟩
            simp only [decide_true]
            go_wp2_with fail
            go_ret
            exact ⟨rfl, HB6.out.trans (below_drewN _ nn)⟩
          · have ha' : (aheadE (pts box rs) xs != 0) = true := by simpa using ha
            clear ha hs
            go_wp2_with fail
            go_ret
            exact ⟨rfl, HB5.out⟩
        · rw [if_neg hs, if_neg hs]
          clear hs
          go_wp2_with fail
          go_ret
          exact ⟨rfl, HB5.out⟩
      · go_wp2_with fail
        refine (ahead_calls ba bl bc box ra rl rc rs xa xl xc xs w2 (H.out.below HB4.out) (HR.out.below HB4.out) (HX.out.below HB4.out) HE.out).mono ?_
        rintro e w4 ⟨rfl, hb⟩
        have HB5 := hide (bl_on HB4.out hb)
        have P5 := HP4.out.below hb
        obtain ⟨p6, p7⟩ := P5.cells
        have z5 := P5.lt
        clear hb P5
        by_cases hs : xs.length = box.length
        · rw [if_pos hs, if_pos hs]
          by_cases ha : aheadE (pts box rs) xs = 0
          · obtain ⟨a1, a2⟩ := nth_idxOf ha
            rw [ha]
            have A1 := hide a1
            have A2 := hide a2
            clear ha hs a1 a2
            go_wp2_with fail
            refine (callsIn_wide.1 (nth_ok ba bl bc box ra rl rc rs _ w4 (H.out.below HB5.out) (HR.out.below HB5.out) HE.out)).mono ?_
            rintro e w5 ⟨⟨da, dl, dc, rfl, hi⟩, hb⟩
            rw [A1.out]
            rw [A2.out] at hi
            have HI5 := hide hi
            have HB6 := hide (bl_on HB5.out hb)
            clear hi hb
            go_wp2_with fail
            refine (sameList_any da dl dc xs xa xl xc xs w5 HI5.out (HX.out.below HB6.out)).mono ?_
            rintro e w6 ⟨rfl, nn, rfl⟩
            simp only [decide_true]
            go_wp2_with fail
            go_ret
            exact ⟨rfl, HB6.out.trans (below_drewN _ nn)⟩
          · have ha' : (aheadE (pts box rs) xs != 0) = true := by simpa using ha
            clear ha hs
            go_wp2_with fail
            go_ret
            exact ⟨rfl, HB5.out⟩
        · rw [if_neg hs, if_neg hs]
          clear hs
          go_wp2_with fail
          go_ret
          exact ⟨rfl, HB5.out⟩
  · have c2 : (ptE box rs != 0) = true := by simpa using hE
    have HC := hide (ptCount_bad ba bl bc box ra rl rc rs _ (h.below B1) (hr.below B1) hE)
    clear h hr hX B1 hE
    go_enter Try.func7, Try.ntmps7
    go_wp2_with (go_at_call 8; refine HC.out.mono ?_; rintro e w1 ⟨rfl, hb⟩; have HB1 := hide (bl_on HB.out hb); clear hb)
    go_ret
    exact ⟨rfl, HB1.out⟩
end Go.Proofs.Ytmefgejggpimeaa.V
