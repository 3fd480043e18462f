/-
  Contracts: the document's Count, Nth, same, Ahead; the law PointsOrders.
-/
import Derived.Test.YtmefgejggpimeaaPtAll
import Derived.Test.YtmefgejggpimeaaPtBackLaw
namespace Go.Proofs.Ytmefgejggpimeaa.V
open Go.RowKit
set_option linter.unusedVariables false

set_option maxHeartbeats 2000000 in
theorem rCount_any (ba : Option Addr) (bl bc : Nat) (box : List Int) (ra : Option Addr) (rl rc : Nat) (rs : List (List Int × Int)) (w : World) (h : Lst w ba bl bc box) (hr : Rws w ra rl rs) :
    Calls Try.prog 9 #[.agg #[.slice ba bl bc, .slice ra rl rc]] w fun e w' => e = .returned (.tuple #[.int .i64 (if ptE box rs = 0 then (pts box rs).length else 0 : Nat), .int .i64 (ptE box rs)]) ∧ Below w.heap.size w w' := by
  have B1 : Below w.heap.size w (w.alloc (.cells #[.slice ba bl bc, .slice ra rl rc] 25)) := bl_new _
  have HW := hide (rptWrong_any ba bl bc box ra rl rc rs _ (h.1.below B1) (hr.below B1))
  have HP := hide (PtAt.new w ba bl bc ra rl rc)
  have HB := hide B1
  have H := hide h
  have HR := hide hr
  clear h hr B1
  by_cases hE : ptE box rs = 0
  · have HE := hide hE
    have HO := hide (ptE_ok hE)
    rw [if_pos hE, hE]
    clear hE
    go_enter Try.func9, Try.ntmps9
    go_wp2_with (first
      | (go_at_call 11; refine HW.out.mono ?_; rintro e w1 ⟨rfl, hb⟩; rw [HE.out]; have HB1 := hide (bl_on HB.out hb); have P1 := HP.out.below hb; obtain ⟨p0, p1⟩ := P1.cells; have zP := P1.lt; clear hb P1)
      | (go_at_call 21; refine (rAll_ok ba bl bc box ra rl rc rs w1 (H.out.below HB1.out) (HR.out.below HB1.out) HO.out).mono ?_; rintro e w2 ⟨⟨A, c, rfl, _⟩, hb⟩; have HB2 := hide (bl_on HB1.out hb); clear hb))
    go_ret2
    exact ⟨rfl, HB2.out⟩
  · have c2 : (ptE box rs != 0) = true := by simpa using hE
    rw [if_neg hE]
    clear hE
    go_enter Try.func9, Try.ntmps9
    go_wp2_with (go_at_call 11; refine HW.out.mono ?_; rintro e w1 ⟨rfl, hb⟩; have HB1 := hide (bl_on HB.out hb); clear hb)
    go_ret2
    exact ⟨rfl, HB1.out⟩

set_option maxHeartbeats 2000000 in
theorem rNth_any (ba : Option Addr) (bl bc : Nat) (box : List Int) (ra : Option Addr) (rl rc : Nat) (rs : List (List Int × Int)) (n : Int) (w : World) (h : Lst w ba bl bc box) (hr : Rws w ra rl rs) :
    Calls Try.prog 16 #[.agg #[.slice ba bl bc, .slice ra rl rc], .int .i64 n] w fun e w' => (∃ a l c, e = .returned (.tuple #[.slice a l c, .int .i64 (if ptE box rs = 0 then nthE (pts box rs) n else ptE box rs)]) ∧ Ints w' a l (if ptE box rs = 0 then nthL (pts box rs) n else [])) ∧ Below w.heap.size w w' := by
  have B1 : Below w.heap.size w (w.alloc (.cells #[.slice ba bl bc, .slice ra rl rc] 25)) := bl_new _
  have HW := hide (rptWrong_any ba bl bc box ra rl rc rs _ (h.1.below B1) (hr.below B1))
  have HP := hide (PtAt.new w ba bl bc ra rl rc)
  have HB := hide B1
  have H := hide h
  have HR := hide hr
  clear h hr B1
  by_cases hE : ptE box rs = 0
  · have HE := hide hE
    have HO := hide (ptE_ok hE)
    simp only [if_pos hE]
    clear hE
    obtain ⟨N, hN⟩ : ∃ N, N = (pts box rs).length := ⟨_, rfl⟩
    have hN4 : N ≤ 4096 := by rw [hN]; exact pts_len HO.out
    have HA := hide (fun W (hb : Below w.heap.size w W) => rAll_ok ba bl bc box ra rl rc rs W (H.out.below hb) (HR.out.below hb) HO.out)
    rw [← hN] at HA
    have HN := hide hN
    clear hN
    by_cases hn : ptIn n N = true
    · obtain ⟨i, rfl⟩ : ∃ i : Nat, n = i := ⟨n.toNat, by simp [ptIn] at hn; omega⟩
      have hi : i < N := by simp [ptIn] at hn; omega
      have e1 : nthE (pts box rs) i = 0 := by rw [nthE, ← HN.out, if_pos hn]
      have e2 : nthL (pts box rs) i = (pts box rs)[i]?.getD [] := by rw [nthL, ← HN.out, if_pos hn]; simp
      rw [e1, e2]
      clear e1 e2 hn
      go_enter Try.func16, Try.ntmps16
      go_wp2_with (first
        | (go_at_call 11; refine HW.out.mono ?_; rintro e w1 ⟨rfl, hb⟩; rw [HE.out]; have HB1 := hide (bl_on HB.out hb); have P1 := HP.out.below hb; obtain ⟨p0, p1⟩ := P1.cells; have zP := P1.lt; clear hb P1)
        | (go_at_call 21; refine (HA.out w1 HB1.out).mono ?_; rintro e w2 ⟨⟨A, c, rfl, hl⟩, hb⟩; have HB2 := hide (bl_on HB1.out hb); obtain ⟨b, off, rfl, hat⟩ := hl.at (by omega); obtain ⟨xa, xl, xc, x1, x2, _⟩ := hat i hi; have HX := hide x2; have z1 := lt_of_cell x1; simp only at z1; clear hb hl hat x2))
      go_ret2
      exact ⟨⟨_, _, _, rfl, HX.out.1⟩, HB2.out⟩
    · have hn' : ptIn n (pts box rs).length = false := by rw [← HN.out]; simpa using hn
      rw [(nth_none hn').1, (nth_none hn').2]
      have hn1 : n < 0 ∨ (0 ≤ n ∧ (N : Int) ≤ n) := by simp [ptIn] at hn; omega
      clear hn hn'
      rcases hn1 with hn1 | ⟨hn1, hn2⟩
      all_goals
        go_enter Try.func16, Try.ntmps16
        go_wp2_with (first
          | (go_at_call 11; refine HW.out.mono ?_; rintro e w1 ⟨rfl, hb⟩; rw [HE.out]; have HB1 := hide (bl_on HB.out hb); have P1 := HP.out.below hb; obtain ⟨p0, p1⟩ := P1.cells; have zP := P1.lt; clear hb P1)
          | (go_at_call 21; refine (HA.out w1 HB1.out).mono ?_; rintro e w2 ⟨⟨A, c, rfl, _⟩, hb⟩; have HB2 := hide (bl_on HB1.out hb); clear hb))
        go_ret2
        exact ⟨⟨_, _, _, rfl, ints_nil _⟩, HB2.out⟩
  · have c2 : (ptE box rs != 0) = true := by simpa using hE
    simp only [if_neg hE]
    clear hE
    go_enter Try.func16, Try.ntmps16
    go_wp2_with (go_at_call 11; refine HW.out.mono ?_; rintro e w1 ⟨rfl, hb⟩; have HB1 := hide (bl_on HB.out hb); clear hb)
    go_ret2
    exact ⟨⟨_, _, _, rfl, ints_nil _⟩, HB1.out⟩

set_option maxHeartbeats 1000000 in
theorem ptSame_any (a : Option Addr) (len cap : Nat) (xs : List Int) (a' : Option Addr) (cap' : Nat) (ys : List Int) (w : World) (h : Ints w a len xs) (h' : Ints w a' len ys) :
    Calls Try.prog 31 #[.slice a len cap, .slice a' len cap'] w fun e w' => e = .returned (.bool (decide (xs = ys))) ∧ ∃ n, w' = w.drewN n := by
  have hm := h.2.1
  have H := hide h
  have H' := hide h'
  have HL := hide h.1
  have HL' := hide h'.1
  clear h h'
  go_enter Try.func31, Try.ntmps31
  go_wp2
  go_loopw [8] (fun i wr => ∃ k : Nat, k ≤ len ∧ i = .int .i64 k ∧ xs.take k = ys.take k ∧ ∃ n, wr = w.drewN n) (fun i _ => len - (intOf i).toNat)
  case atStart => exact ⟨0, Nat.zero_le _, rfl, by simp, 0, rfl⟩
  case round =>
    obtain ⟨k, hk, rfl, ht, n, rfl⟩ := hrel
    have HT := hide ht
    clear ht
    by_cases hlt : k < len
    · obtain ⟨b, off, rfl, hb, hc⟩ := H.out.at (by omega)
      obtain ⟨b', off', rfl, hb', hc'⟩ := H'.out.at (by omega)
      have hck := hc k hlt
      have hck' := hc' k hlt
      clear hc hc'
      by_cases q : xs[k]?.getD 0 = ys[k]?.getD 0
      · have Q := hide q
        have q1 : (xs[k]?.getD 0 != ys[k]?.getD 0) = false := by simp [q]
        clear q
        go_wp2
        go_quiet (fail)
        go_wp2
        go_roundw
        case rel => exact ⟨k + 1, by omega, by go_num, take_eq_succ (by rw [HL.out]; exact hlt) (by rw [HL'.out]; exact hlt) HT.out Q.out, _, rfl⟩
        case measure => simp [intOf]; omega
      · have Q := hide q
        have q1 : (xs[k]?.getD 0 != ys[k]?.getD 0) = true := by simp [q]
        clear q
        go_wp2
        go_quiet (fail)
        go_wp2
        go_ret
        have d : decide (xs = ys) = false := by simp [ne_of_getD Q.out]
        exact ⟨by rw [d]; rfl, _, World.drewN_drewN _ _ _⟩
    · go_wp2
      go_ret
      have e : xs = ys := by
        have := HT.out
        rwa [take_all HL.out hlt, take_all HL'.out hlt] at this
      exact ⟨by rw [e]; simp, _, rfl⟩

set_option maxHeartbeats 2000000 in
theorem rAhead_any (ba : Option Addr) (bl bc : Nat) (box : List Int) (ra : Option Addr) (rl rc : Nat) (rs : List (List Int × Int)) (xa : Option Addr) (xl xc : Nat) (xs : List Int) (w : World) (h : Lst w ba bl bc box) (hr : Rws w ra rl rs) (hX : Ints w xa xl xs) :
    Calls Try.prog 18 #[.agg #[.slice ba bl bc, .slice ra rl rc], .slice xa xl xc] w fun e w' => e = .returned (.tuple #[.int .i64 (if ptE box rs = 0 then (if xs.length = box.length then aheadN (pts box rs) xs else 0) else 0 : Nat), .int .i64 (if ptE box rs = 0 then (if xs.length = box.length then aheadE (pts box rs) xs else 6) else ptE box rs)]) ∧ Below w.heap.size w w' := by
  have B1 : Below w.heap.size w (w.alloc (.cells #[.slice ba bl bc, .slice ra rl rc] 25)) := bl_new _
  have HW := hide (rptWrong_any ba bl bc box ra rl rc rs _ (h.1.below B1) (hr.below B1))
  have HP := hide (PtAt.new w ba bl bc ra rl rc)
  have HB := hide B1
  have H := hide h
  have HR := hide hr
  have HX := hide hX
  have hm1 := hX.2.1
  have hm2 := h.1.2.1
  have HL1 := hide h.1.1
  have HL2 := hide hX.1
  clear h hr B1 hX
  by_cases hE : ptE box rs = 0
  · have HE := hide hE
    have HO := hide (ptE_ok hE)
    simp only [if_pos hE]
    clear hE
    by_cases hs : xl = bl
    · subst hs
      have e0 : xs.length = box.length := by rw [HL1.out, HL2.out]
      simp only [if_pos e0]
      obtain ⟨N, hN⟩ : ∃ N, N = (pts box rs).length := ⟨_, rfl⟩
      have hN4 : N ≤ 4096 := by rw [hN]; exact pts_len HO.out
      have HA := hide (fun W (hb : Below w.heap.size w W) => rAll_ok ba xl bc box ra rl rc rs W (H.out.below hb) (HR.out.below hb) HO.out)
      rw [← hN] at HA
      have HN := hide hN
      clear hN e0
      go_enter Try.func18, Try.ntmps18
      go_wp2_with (first
        | (go_at_call 11; refine HW.out.mono ?_; rintro e w1 ⟨rfl, hb⟩; rw [HE.out]; have HB1 := hide (bl_on HB.out hb); have P1 := HP.out.below hb; obtain ⟨p0, p1⟩ := P1.cells; have zP := P1.lt; clear hb P1)
        | (go_at_call 21; refine (HA.out w1 HB1.out).mono ?_; rintro e w2 ⟨⟨A, c, rfl, hl⟩, hb⟩; have HB2 := hide (bl_on HB1.out hb); have HLL := hide hl; clear hb hl))
      go_loopw [23] (fun i wr => ∃ k : Nat, k ≤ N ∧ i = .int .i64 k ∧ xs ∉ (pts box rs).take k ∧ ∃ n, wr = w2.drewN n) (fun i _ => N - (intOf i).toNat)
      case atStart => exact ⟨0, Nat.zero_le _, rfl, by simp, 0, rfl⟩
      case round =>
        clear p0 p1 zP
        obtain ⟨k, hk, rfl, hn, n, rfl⟩ := hrel
        have HNN := hide hn
        clear hn
        by_cases hlt : k < N
        · have hkl : k < (pts box rs).length := by rw [← HN.out]; exact hlt
          obtain ⟨b, off, rfl, hat⟩ := HLL.out.at (by omega)
          obtain ⟨ya, yl, yc, x1, x2, _⟩ := hat k hlt
          have z1 := lt_of_cell x1
          simp only at z1
          have HT := hide (take_succL (pts box rs) k hkl)
          have hmem : (pts box rs)[k]?.getD [] ∈ pts box rs := by simp [hkl]
          have hsp : pts box rs = (pts box rs).take k ++ (pts box rs)[k]?.getD [] :: (pts box rs).drop (k + 1) := by
            conv => lhs; rw [← List.take_append_drop (k + 1) (pts box rs), take_succL (pts box rs) k hkl, List.append_assoc]
            rfl
          obtain ⟨p, hp, hx, _⟩ := pts_mem hmem
          have hyl := (index_bd HO.out hp).2
          rw [← hx] at hyl
          obtain rfl : yl = xl := by have := x2.1.1; have := HL1.out; omega
          obtain ⟨y, hy⟩ : ∃ y, y = (pts box rs)[k]?.getD [] := ⟨_, rfl⟩
          rw [← hy] at x2 HT hsp
          have HSP := hide hsp
          have HEQ := hide (ptSame_any xa yl xc xs ya yc y (w2.drewN n) ((HX.out.below HB2.out).below (below_drewN _ _)) (x2.1.below (below_drewN _ _)))
          clear hat x2 hmem hx hyl hy hkl hsp
          by_cases q : xs = y
          · have q1 : decide (xs = y) = true := by simp [q]
            rw [q1] at HEQ
            have Q := hide q
            clear q q1
            go_wp2_with (go_at_call 31; refine HEQ.out.mono ?_; rintro e w3 ⟨rfl, nn, rfl⟩)
            go_ret2
            obtain ⟨e1, e2⟩ := ahead_here (L := pts box rs) (pre := (pts box rs).take k) (post := (pts box rs).drop (k + 1)) (x := xs) (by rw [Q.out]; exact HSP.out) HNN.out
            rw [e1, e2, List.length_take, ← HN.out, Nat.min_eq_left (by omega)]
            exact ⟨rfl, HB2.out.trans (below_drewN _ _)⟩
          · have q1 : decide (xs = y) = false := by simp [q]
            rw [q1] at HEQ
            have Q := hide q
            clear q q1
            go_wp2_with (go_at_call 31; refine HEQ.out.mono ?_; rintro e w3 ⟨rfl, nn, rfl⟩)
            go_roundw
            case rel =>
              refine ⟨k + 1, by omega, by go_num, ?_, _, rfl⟩
              rw [HT.out]
              intro hm
              rcases List.mem_append.1 hm with hm | hm
              · exact HNN.out hm
              · exact Q.out (by simpa using hm)
            case measure => simp [intOf]; omega
        · go_wp2_with fail
          go_ret2
          have hno : xs ∉ pts box rs := by
            have := HNN.out
            rwa [List.take_of_length_le (by rw [← HN.out]; omega)] at this
          obtain ⟨e1, e2⟩ := ahead_none hno
          rw [e1, e2]
          exact ⟨rfl, HB2.out.trans (below_drewN _ n)⟩
    · have e0 : ¬ xs.length = box.length := by rw [HL1.out, HL2.out]; exact hs
      simp only [if_neg e0]
      have c2 : ((xl : Int) != (bl : Int)) = true := by simp; omega
      clear e0 hs
      go_enter Try.func18, Try.ntmps18
      go_wp2_with (go_at_call 11; refine HW.out.mono ?_; rintro e w1 ⟨rfl, hb⟩; rw [HE.out]; have HB1 := hide (bl_on HB.out hb); have P1 := HP.out.below hb; obtain ⟨p0, p1⟩ := P1.cells; have zP := P1.lt; clear hb P1)
      go_ret2
      exact ⟨rfl, HB1.out⟩
  · have c2 : (ptE box rs != 0) = true := by simpa using hE
    simp only [if_neg hE]
    clear hE
    go_enter Try.func18, Try.ntmps18
    go_wp2_with (go_at_call 11; refine HW.out.mono ?_; rintro e w1 ⟨rfl, hb⟩; have HB1 := hide (bl_on HB.out hb); clear hb)
    go_ret2
    exact ⟨rfl, HB1.out⟩

theorem nth_calls (ba : Option Addr) (bl bc : Nat) (box : List Int) (ra : Option Addr) (rl rc : Nat) (rs : List (List Int × Int)) (n : Int) (w : World) (h : Ints w ba bl box) (hr : Rws w ra rl rs) :
    Calls Try.prog 15 #[.agg #[.slice ba bl bc, .slice ra rl rc], .int .i64 n] w fun e w' => (∃ a l c, e = .returned (.tuple #[.slice a l c, .int .i64 (if ptE box rs = 0 then nthE (pts box rs) n else ptE box rs)]) ∧ Ints w' a l (if ptE box rs = 0 then nthL (pts box rs) n else [])) ∧ Below w.heap.size w w' := by
  by_cases hE : ptE box rs = 0
  · simp only [if_pos hE]
    exact callsIn_wide.1 (nth_ok ba bl bc box ra rl rc rs n w h hr hE)
  · simp only [if_neg hE]
    refine (nth_bad ba bl bc box ra rl rc rs n w h hr hE).mono ?_
    rintro e w' ⟨rfl, hb⟩
    exact ⟨⟨none, 0, 0, rfl, ints_nil _⟩, hb⟩
theorem ahead_all (ba : Option Addr) (bl bc : Nat) (box : List Int) (ra : Option Addr) (rl rc : Nat) (rs : List (List Int × Int)) (xa : Option Addr) (xl xc : Nat) (xs : List Int) (w : World) (h : Ints w ba bl box) (hr : Rws w ra rl rs) (hX : Ints w xa xl xs) :
    Calls Try.prog 17 #[.agg #[.slice ba bl bc, .slice ra rl rc], .slice xa xl xc] w fun e w' => e = .returned (.tuple #[.int .i64 (if ptE box rs = 0 then (if xs.length = box.length then aheadN (pts box rs) xs else 0) else 0 : Nat), .int .i64 (if ptE box rs = 0 then (if xs.length = box.length then aheadE (pts box rs) xs else 6) else ptE box rs)]) ∧ Below w.heap.size w w' := by
  by_cases hE : ptE box rs = 0
  · simp only [if_pos hE]
    exact ahead_calls ba bl bc box ra rl rc rs xa xl xc xs w h hr hX hE
  · simp only [if_neg hE]
    exact ahead_bad ba bl bc box ra rl rc rs xa xl xc xs w h hr hE

set_option maxHeartbeats 2000000 in
theorem pointsOrders_walk (ba : Option Addr) (bl bc : Nat) (box : List Int) (ra : Option Addr) (rl rc : Nat) (rs : List (List Int × Int)) (n : Int) (xa : Option Addr) (xl xc : Nat) (xs : List Int) (w : World) (h : Lst w ba bl bc box) (hr : Rws w ra rl rs) (hX : Ints w xa xl xs) :
    Calls Try.prog 4 #[.agg #[.slice ba bl bc, .slice ra rl rc], .int .i64 n, .slice xa xl xc] w fun e w' => e = .returned (.bool true) ∧ Below w.heap.size w w' := by
  have B1 : Below w.heap.size w (w.alloc (.cells #[.slice ba bl bc, .slice ra rl rc] 25)) := bl_new _
  have HB := hide B1
  have HP := hide (PtAt.new w ba bl bc ra rl rc)
  have H := hide h
  have HR := hide hr
  have HX := hide hX
  clear h hr hX B1
  obtain ⟨E1, hE1⟩ : ∃ E, E = (if ptE box rs = 0 then nthE (pts box rs) n else ptE box rs) := ⟨_, rfl⟩
  obtain ⟨L1, hL1⟩ : ∃ L, L = (if ptE box rs = 0 then nthL (pts box rs) n else []) := ⟨_, rfl⟩
  obtain ⟨M2, hM2⟩ : ∃ M : Nat, M = (if ptE box rs = 0 then (if xs.length = box.length then aheadN (pts box rs) xs else 0) else 0 : Nat) := ⟨_, rfl⟩
  obtain ⟨E2, hE2⟩ : ∃ E : Int, E = (if ptE box rs = 0 then (if xs.length = box.length then aheadE (pts box rs) xs else 6) else ptE box rs) := ⟨_, rfl⟩
  have C1 := hide (fun W (hb : Below w.heap.size w W) => nth_calls ba bl bc box ra rl rc rs n W (H.out.1.below hb) (HR.out.below hb))
  have C2 := hide (fun W (hb : Below w.heap.size w W) => rNth_any ba bl bc box ra rl rc rs n W (H.out.below hb) (HR.out.below hb))
  have C3 := hide (fun W (hb : Below w.heap.size w W) => ahead_all ba bl bc box ra rl rc rs xa xl xc xs W (H.out.1.below hb) (HR.out.below hb) (HX.out.below hb))
  have C4 := hide (fun W (hb : Below w.heap.size w W) => rAhead_any ba bl bc box ra rl rc rs xa xl xc xs W (H.out.below hb) (HR.out.below hb) (HX.out.below hb))
  simp only [← hE1, ← hL1] at C1 C2
  simp only [← hM2, ← hE2] at C3 C4
  clear hE1 hL1 hM2 hE2
  go_enter Try.func4, Try.ntmps4
  go_wp2_with fail
  refine (C1.out _ HB.out).mono ?_
  rintro e w1 ⟨⟨a1, l1, c1, rfl, i1⟩, hb⟩
  have HB1 := hide (bl_on HB.out hb)
  have P1 := HP.out.below hb
  have HP1 := hide P1
  obtain ⟨p0, p1⟩ := P1.cells
  have zP := P1.lt
  have I1 := hide i1
  clear hb P1 i1
  go_wp2_with fail
  refine (C2.out _ HB1.out).mono ?_
  rintro e w2 ⟨⟨a2, l2, c2, rfl, i2⟩, hb⟩
  have HB2 := hide (bl_on HB1.out hb)
  have P2 := HP1.out.below hb
  have HP2 := hide P2
  obtain ⟨p2, p3⟩ := P2.cells
  have zP2 := P2.lt
  have I2 := hide i2
  have I1' := hide (I1.out.below hb)
  clear hb P2 i2 p0 p1 zP
  go_wp2_with fail
  refine (sameList_any a1 l1 c1 L1 a2 l2 c2 L1 w2 I1'.out I2.out).mono ?_
  rintro e w3 ⟨rfl, nn, rfl⟩
  simp only [decide_true]
  have HB3 := hide (HB2.out.trans (below_drewN _ nn))
  have P3 : PtAt (w2.drewN nn) w.heap.size ba bl bc ra rl rc := HP2.out
  have HP3 := hide P3
  obtain ⟨p4, p5⟩ := P3.cells
  have zP3 := P3.lt
  clear P3 p2 p3 zP2 I1 I2 I1'
  obtain ⟨W3, hW3⟩ : ∃ W3, W3 = w2.drewN nn := ⟨_, rfl⟩
  rw [← hW3] at HB3 HP3 p4 p5 zP3
  rw [← hW3]
  clear hW3
  go_wp2_with fail
  refine (C3.out _ HB3.out).mono ?_
  rintro e w4 ⟨rfl, hb⟩
  have HB4 := hide (bl_on HB3.out hb)
  have P4 := HP3.out.below hb
  obtain ⟨p6, p7⟩ := P4.cells
  have zP4 := P4.lt
  clear hb P4 p4 p5 zP3
  go_wp2_with fail
  refine (C4.out _ HB4.out).mono ?_
  rintro e w5 ⟨rfl, hb⟩
  have HB5 := hide (bl_on HB4.out hb)
  clear hb
  go_wp2_with fail
  go_ret
  exact ⟨by simp, HB5.out⟩
end Go.Proofs.Ytmefgejggpimeaa.V
