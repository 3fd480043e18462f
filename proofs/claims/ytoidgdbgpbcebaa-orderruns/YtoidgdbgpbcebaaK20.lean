/-
  Contracts: what is wrong with a nest. Contracts: what is wrong with a statement, with a nest. Contract: nest.Wrong.
-/
import Derived.Test.YtoidgdbgpbcebaaK10
namespace Go.Proofs.Ytoidgdbgpbcebaa.V
open Go.RowKit
set_option linter.unusedVariables false

set_option maxHeartbeats 400000 in
theorem indexSize_any (a : Option Addr) (len cap : Nat) (xs : List Int) (w : World) (h : Ints w a len xs) :
    Calls Try.prog 87 #[.slice a len cap, .func (.func 64) #[] #[]] w fun e w' => (∃ r : Int, e = .returned (.int .i64 r) ∧ decide (0 ≤ r) = xs.any badSize) ∧ w' = w := by
  have hl := h.1
  have hm := h.2.1
  have HL : Hid (xs.length = len) := hl
  go_enter Try.func87, Try.ntmps87
  go_wp2
  go_loop [8] (fun i => ∃ k : Nat, k ≤ len ∧ i = .int .i64 k ∧ (xs.take k).any badSize = false) (fun i => len - (intOf i).toNat)
  case atStart => exact ⟨0, Nat.zero_le _, rfl, by simp⟩
  case round =>
    obtain ⟨k, hk, rfl, hn⟩ := hrel
    have HN : Hid ((xs.take k).any badSize = false) := hn
    clear hn hl
    by_cases hlt : k < len
    · obtain ⟨b, off, rfl, hb, hc⟩ := h.at (by omega)
      have hck := hc k hlt
      clear hc h
      by_cases h1 : xs[k]?.getD 0 < 0
      · go_wp2
        go_ret
        exact ⟨⟨_, rfl, by rw [any_of_getD xs k (by rw [HL.out]; exact hlt) (by simp [badSize, h1])]; simp⟩, rfl⟩
      · by_cases h2 : 65536 < xs[k]?.getD 0
        · go_wp2
          go_ret
          exact ⟨⟨_, rfl, by rw [any_of_getD xs k (by rw [HL.out]; exact hlt) (by simp [badSize, h2])]; simp⟩, rfl⟩
        · go_wp2
          go_round
          case rel => exact ⟨k + 1, by omega, by go_num, not_mem_take_succ xs k (by rw [HL.out]; exact hlt) HN.out (by simp [badSize]; omega)⟩
          case measure => simp [intOf]; omega
    · go_wp2
      go_ret
      refine ⟨⟨_, rfl, ?_⟩, rfl⟩
      have := HN.out
      rw [take_all HL.out hlt] at this
      rw [this]; decide
theorem containsSize_any (a : Option Addr) (len cap : Nat) (xs : List Int) (w : World) (h : Ints w a len xs) :
    Calls Try.prog 63 #[.slice a len cap, .func (.func 64) #[] #[]] w fun e w' => e = .returned (.bool (xs.any badSize)) ∧ w' = w := by
  have H : Hid (Ints w a len xs) := h
  clear h
  go_enter Try.func63, Try.ntmps63
  go_wp2_with (go_at_call 87; refine (indexSize_any _ _ _ _ _ H.out).mono ?_; rintro e w' ⟨⟨r, rfl, hr⟩, rfl⟩; have HR := hide hr; clear hr)
  go_ret
  exact ⟨by rw [← HR.out]; rfl, rfl⟩

set_option maxHeartbeats 1000000 in
theorem gets_any (k : Int) (w : World) : Calls Try.prog 88 #[.int .i64 k] w fun e w' => e = .returned (.tuple #[.int .i64 (if takesV k < 0 then 0 else takesV k), .bool (decide (0 ≤ takesV k))]) ∧ w' = w := by
  rcases kind_cases k with h | h | h | h | h | h | h | h | h | h | h
  case inr.inr.inr.inr.inr.inr.inr.inr.inr.inr =>
    rw [takes_none h]
    obtain ⟨h1, h2, h3, h4, h5, h6, h7, h8, h9, h10⟩ := h
    have k1 : (k == 1) = false := by simpa using h1
    have k2 : (k == 2) = false := by simpa using h2
    have k3 : (k == 3) = false := by simpa using h3
    have k4 : (k == 4) = false := by simpa using h4
    have k5 : (k == 5) = false := by simpa using h5
    have k6 : (k == 6) = false := by simpa using h6
    have k7 : (k == 7) = false := by simpa using h7
    have k8 : (k == 8) = false := by simpa using h8
    have k9 : (k == 9) = false := by simpa using h9
    have k10 : (k == 10) = false := by simpa using h10
    go_enter Try.func88, Try.ntmps88
    go_wp2
    go_ret2
    exact ⟨rfl, rfl⟩
  all_goals
    subst h
    go_enter Try.func88, Try.ntmps88
    go_wp2
    go_ret2
    exact ⟨rfl, rfl⟩

set_option maxHeartbeats 1000000 in
theorem wrongAccess_any (q : AW) (a : Acc) (n vars : Nat) (w : World) (h : AG w q a) (hn : n ≤ 9223372036854775807) (h4 : vars ≤ 4) :
    Calls Try.prog 89 #[q.v, .int .i64 n, .int .i64 vars] w fun e w' => e = .returned (.int .i64 (accE n a vars)) ∧ Below w.heap.size w w' := by
  have B1 : Below w.heap.size w (w.alloc (.cells #[.int .i64 q.arr, .slice q.ca q.cl q.cc, .int .i64 q.con] 68)) := bl_new _
  have P1 := AW.new q w
  obtain ⟨p0, p1, p2⟩ := P1.cells
  have h1 := h.below B1
  have HC := hide (wrongRow_any q.ca q.cl q.cc a.2.1 a.2.2 vars _ h1.coef h.bd.2 h4)
  have ha := h.arr
  have hk := h.con
  have hb1 := h.bd.1.1
  have hb2 := h.bd.1.2
  have HB := hide B1
  obtain ⟨arr, ca, cl, cc, con⟩ := q
  obtain ⟨aa, cs, ak⟩ := a
  simp only [AW.v] at *
  subst ha
  subst hk
  clear h h1 B1 P1
  by_cases c1 : arr < 0
  · have e1 : accE n (arr, cs, con) vars = 4 := by unfold accE; rw [if_pos (.inl c1)]
    rw [e1]
    clear e1
    go_enter Try.func89, Try.ntmps89
    go_wp2_with fail
    go_ret
    exact ⟨rfl, HB.out⟩
  by_cases c2 : (n : Int) ≤ arr
  · have e1 : accE n (arr, cs, con) vars = 4 := by unfold accE; rw [if_pos (.inr c2)]
    rw [e1]
    clear e1
    go_enter Try.func89, Try.ntmps89
    go_wp2_with fail
    go_ret
    exact ⟨rfl, HB.out⟩
  have e1 : accE n (arr, cs, con) vars = rowE (cs, con) vars := by unfold accE; rw [if_neg (by simp only; omega)]
  rw [e1]
  clear e1
  go_enter Try.func89, Try.ntmps89
  go_wp2_with (go_at_call 77; refine HC.out.mono ?_; rintro e w2 ⟨rfl, hb⟩; have HB2 := hide (bl_on HB.out hb); clear hb)
  go_ret
  exact ⟨rfl, HB2.out⟩
end Go.Proofs.Ytoidgdbgpbcebaa.V
namespace Go.Proofs.Ytoidgdbgpbcebaa.V
open Go.RowKit
set_option linter.unusedVariables false

set_option maxHeartbeats 4000000 in
theorem wrongStmt_any (q : SW) (s : Stm) (n : Nat) (w : World) (h : SG w q s) (hn : n ≤ 9223372036854775807) :
    Calls Try.prog 65 #[q.v, .int .i64 n] w fun e w' => e = .returned (.int .i64 (stmE n s)) ∧ Below w.heap.size w w' := by
  have B1 : Below w.heap.size w (w.alloc (.cells q.cs 71)) := bl_new _
  have P0 := SW.new q w
  obtain ⟨p0, p1, p2, p3, p4, p5, p6, p7⟩ := P0.cells
  have h1 := h.below B1
  have HPW := hide (ptWrong_any q.ba q.bl q.bc s.box q.ra q.rl q.rc s.rows _ h1.box.1 h1.rows)
  have HAC := hide (fun (h4 : q.bl ≤ 4) (W : World) (hb : Below w.heap.size w W) => wrongAccess_any q.pu s.put n q.bl W (h.put.below hb) hn h4)
  have HGE := hide h.gets
  have HB := hide B1
  have HP := hide P0
  have hbl := h.box.1.1
  have hgl := h.gets.1
  have hgm := h.gets.2.1
  have hkd := h.kd
  have hbm := h.box.1.2.1
  have hb1 := h.bd.1.1
  have hb2 := h.bd.1.2
  obtain ⟨ba, bl, bc, ra, rl, rc, kd, va, ⟨parr, pca, pcl, pcc, pcon⟩, ga, gl, gc⟩ := q
  obtain ⟨box, rows, kind, val, put, gets⟩ := s
  simp only [SW.v, SW.cs, AW.v] at *
  subst hkd
  clear h h1 B1 P0
  by_cases c1 : ptE box rows ≠ 0
  · have e1 : stmE n ⟨box, rows, kd, val, put, gets⟩ = ptE box rows := by unfold stmE; simp only; rw [if_pos c1]
    have c2 : (ptE box rows != 0) = true := by simpa using c1
    rw [e1]
    clear e1 c1
    go_enter Try.func65, Try.ntmps65
    go_wp2_with (go_at_call 66; refine HPW.out.mono ?_; rintro e w1 ⟨rfl, hb⟩; have HB1 := hide (bl_on HB.out hb); have P1 := HP.out.below hb; obtain ⟨p0, p1, p2, p3, p4, p5, p6, p7⟩ := P1.cells; have zP := P1.lt; have HP1 := hide P1; clear hb P1)
    go_ret
    exact ⟨rfl, HB1.out⟩
  have c1' : ptE box rows = 0 := by simpa using c1
  have C1 := hide c1'
  have h4 : bl ≤ 4 := by have := (ptE_ok c1').rank; omega
  have HAC := hide (HAC.out h4)
  by_cases c2 : takesV kd < 0
  · have e1 : stmE n ⟨box, rows, kd, val, put, gets⟩ = 1 := by unfold stmE; simp only; rw [if_neg c1, if_pos c2]
    have c3 : decide (0 ≤ takesV kd) = false := by simp; omega
    rw [e1]
    have C3 := hide c3
    clear e1 c1 c1' c3
    go_enter Try.func65, Try.ntmps65
    go_wp2_with (first | (go_at_call 66; refine HPW.out.mono ?_; rintro e w1 ⟨rfl, hb⟩; rw [C1.out]; have HB1 := hide (bl_on HB.out hb); have P1 := HP.out.below hb; obtain ⟨p0, p1, p2, p3, p4, p5, p6, p7⟩ := P1.cells; have zP := P1.lt; have HP1 := hide P1; clear hb P1) | (go_at_call 88; refine (gets_any _ _).mono ?_; rintro e w' ⟨rfl, hw'⟩; obtain rfl := hw'.symm; rw [C3.out]))
    go_ret
    exact ⟨rfl, HB1.out⟩
  have c3 : decide (0 ≤ takesV kd) = true := by simp; omega
  have tb := takes_bd kd
  have C3 := hide c3
  obtain ⟨T, hT⟩ : ∃ T, T = takesV kd := ⟨_, rfl⟩
  have E0 : Hid ((if takesV kd < 0 then 0 else takesV kd) = T) := by rw [Hid, if_neg c2, hT]
  by_cases c4 : takesV kd ≠ (gets.length : Int)
  · have e1 : stmE n ⟨box, rows, kd, val, put, gets⟩ = 2 := by unfold stmE; simp only; rw [if_neg c1, if_neg c2, if_pos c4]
    have c5 : ((gl : Int) != T) = true := by simp; omega
    rw [e1]
    clear e1 c1 c1' c3 c2 c4 tb hT
    go_enter Try.func65, Try.ntmps65
    go_wp2_with (first | (go_at_call 66; refine HPW.out.mono ?_; rintro e w1 ⟨rfl, hb⟩; rw [C1.out]; have HB1 := hide (bl_on HB.out hb); have P1 := HP.out.below hb; obtain ⟨p0, p1, p2, p3, p4, p5, p6, p7⟩ := P1.cells; have zP := P1.lt; have HP1 := hide P1; clear hb P1) | (go_at_call 88; refine (gets_any _ _).mono ?_; rintro e w' ⟨rfl, hw'⟩; obtain rfl := hw'.symm; rw [C3.out, E0.out]))
    go_ret
    exact ⟨rfl, HB1.out⟩
  have c4' : takesV kd = (gets.length : Int) := by simpa using c4
  have c5 : ((gl : Int) != T) = false := by simp; omega
  have hg3 : gl ≤ 3 := by omega
  by_cases c6 : accE n put box.length ≠ 0
  · have e1 : stmE n ⟨box, rows, kd, val, put, gets⟩ = accE n put bl := by unfold stmE; simp only; rw [if_neg c1, if_neg c2, if_neg c4, if_pos c6, hbl]
    have c7 : (accE n put bl != 0) = true := by rw [← hbl]; simpa using c6
    rw [e1]
    clear e1 c1 c1' c3 c2 c4 tb hT c6 c4'
    go_enter Try.func65, Try.ntmps65
    go_wp2_with (first | (go_at_call 66; refine HPW.out.mono ?_; rintro e w1 ⟨rfl, hb⟩; rw [C1.out]; have HB1 := hide (bl_on HB.out hb); have P1 := HP.out.below hb; obtain ⟨p0, p1, p2, p3, p4, p5, p6, p7⟩ := P1.cells; have zP := P1.lt; have HP1 := hide P1; clear hb P1) | (go_at_call 88; refine (gets_any _ _).mono ?_; rintro e w' ⟨rfl, hw'⟩; obtain rfl := hw'.symm; rw [C3.out, E0.out]) | (go_at_call 89; refine (HAC.out w1 HB1.out).mono ?_; rintro e w2 ⟨rfl, hb⟩; have HB2 := hide (bl_on HB1.out hb); have P2 := HP1.out.below hb; obtain ⟨p0, p1, p2, p3, p4, p5, p6, p7⟩ := P2.cells; have zP := P2.lt; have HP2 := hide P2; clear hb P2))
    go_ret
    exact ⟨rfl, HB2.out⟩
  have e1 : stmE n ⟨box, rows, kd, val, put, gets⟩ = accsE n gets bl := by unfold stmE; simp only; rw [if_neg c1, if_neg c2, if_neg c4, if_neg c6, hbl]
  have c7 : accE n put bl = 0 := by rw [← hbl]; simpa using c6
  have C7 := hide c7
  have HGL := hide hgl
  rw [e1]
  clear e1 c1 c1' c3 c2 c4 tb hT c6 c4' c7
  go_enter Try.func65, Try.ntmps65
  go_wp2_with (first | (go_at_call 66; refine HPW.out.mono ?_; rintro e w1 ⟨rfl, hb⟩; rw [C1.out]; have HB1 := hide (bl_on HB.out hb); have P1 := HP.out.below hb; obtain ⟨p0, p1, p2, p3, p4, p5, p6, p7⟩ := P1.cells; have zP := P1.lt; have HP1 := hide P1; clear hb P1) | (go_at_call 88; refine (gets_any _ _).mono ?_; rintro e w' ⟨rfl, hw'⟩; obtain rfl := hw'.symm; rw [C3.out, E0.out]) | (go_at_call 89; refine (HAC.out w1 HB1.out).mono ?_; rintro e w2 ⟨rfl, hb⟩; rw [C7.out]; have HB2 := hide (bl_on HB1.out hb); have P2 := HP1.out.below hb; obtain ⟨p0, p1, p2, p3, p4, p5, p6, p7⟩ := P2.cells; have zP := P2.lt; have HP2 := hide P2; clear hb P2))
  go_loopw [45] (fun i wr => ∃ k : Nat, k ≤ gl ∧ i = .int .i64 k ∧ accsE n (gets.take k) bl = 0 ∧ Below w2.heap.size w2 wr) (fun i _ => gl - (intOf i).toNat)
  case atStart => exact ⟨0, Nat.zero_le _, rfl, by simp [accsE], Below.refl _ _⟩
  case round =>
    obtain ⟨k, hk, rfl, hz, hB⟩ := hrel
    have HZ := hide hz
    have HBr := hide hB
    have P3 := HP2.out.below hB
    obtain ⟨p0, p1, p2, p3, p4, p5, p6, p7⟩ := P3.cells
    have zP3 := P3.lt
    have HP3 := hide P3
    clear hz hB P3
    simp only at p0 p1 p2 p3 p4 p5 p6 p7
    by_cases hlt : k < gl
    · have hkl : k < gets.length := by rw [HGL.out]; exact hlt
      obtain ⟨b, off, rfl, hat⟩ := (HGE.out.below (bl_on HB2.out HBr.out)).at (by omega)
      obtain ⟨q, hq, k1, k2, k3⟩ := (hat k hlt).words
      have z1 := lt_of_cell k1
      simp only at z1
      have B3 : Below wr.heap.size wr (wr.alloc (.cells #[.int .i64 q.arr, .slice q.ca q.cl q.cc, .int .i64 q.con] 68)) := bl_new _
      have HC := hide (wrongAccess_any q _ n bl _ (hq.below B3) hn h4)
      obtain ⟨y0, y1, y2⟩ := (AW.new q wr).cells
      obtain ⟨r0, r1, r2, r3, r4, r5, r6, r7⟩ := (HP3.out.below B3).cells
      have HP4 := hide (HP3.out.below B3)
      have HB3 := hide B3
      have HKL := hide hkl
      obtain ⟨aq, haq⟩ : ∃ aq, aq = gets[k]?.getD accD := ⟨_, rfl⟩
      rw [← haq] at HC
      have HAQ := hide haq
      obtain ⟨arr, ca, cl, cc, con⟩ := q
      simp only [AW.v] at *
      clear hat hq B3 hkl haq
      go_wp2_with (go_at_call 89; refine HC.out.mono ?_; rintro e w3 ⟨rfl, hb⟩; have HB4 := hide (bl_on HB3.out hb); clear hb)
      · have hx : accE n aq bl ≠ 0 := by simpa using (by assumption : (accE n aq bl != 0) = true)
        go_ret
        refine ⟨?_, bl_on HB2.out (bl_on HBr.out HB4.out)⟩
        rw [accsE_here n gets bl k HKL.out HZ.out (by rw [← HAQ.out]; exact hx), ← HAQ.out]; rfl
      · have hx : accE n aq bl = 0 := by simpa using (by assumption : (accE n aq bl != 0) = false)
        go_roundw
        case rel => exact ⟨k + 1, by omega, by go_num, accsE_take n gets bl k HKL.out HZ.out (by rw [← HAQ.out]; exact hx), bl_on HBr.out HB4.out⟩
        case measure => simp [intOf]; omega
    · go_wp2_with fail
      go_ret
      have := HZ.out
      rw [List.take_of_length_le (by rw [HGL.out]; omega)] at this
      exact ⟨by rw [this]; rfl, bl_on HB2.out HBr.out⟩
end Go.Proofs.Ytoidgdbgpbcebaa.V
namespace Go.Proofs.Ytoidgdbgpbcebaa.V
open Go.RowKit
set_option linter.unusedVariables false

set_option maxHeartbeats 4000000 in
theorem nestWrong_any (za : Option Addr) (zl zc : Nat) (zs : List Int) (ta : Option Addr) (tl tc : Nat) (ss : List Stm) (w : World) (hz : Ints w za zl zs) (hs : Stms w ta tl ss) :
    Calls Try.prog 32 #[.agg #[.slice za zl zc, .slice ta tl tc]] w fun e w' => e = .returned (.int .i64 (nestE zs ss)) ∧ Below w.heap.size w w' := by
  have B1 : Below w.heap.size w (w.alloc (.cells #[.slice za zl zc, .slice ta tl tc] 25)) := bl_new _
  have P0 := NsBlk.new w za zl zc ta tl tc
  obtain ⟨p0, p1⟩ := P0.cells
  have HCS := hide (containsSize_any za zl zc zs _ (hz.below B1))
  have HS := hide hs
  have HB := hide B1
  have HP := hide P0
  have hm1 := hz.2.1
  have hm2 := hs.2.1
  have HZL := hide hz.1
  have HSL := hide hs.1
  by_cases c1 : 256 < tl
  · have e1 : nestE zs ss = 2 := by unfold nestE; rw [if_pos (by rw [hs.1]; exact c1)]
    rw [e1]
    clear hz hs e1 B1 P0
    go_enter Try.func32, Try.ntmps32
    go_wp2_with fail
    go_ret
    exact ⟨rfl, HB.out⟩
  cases c2 : zs.any badSize with
  | true =>
    have e1 : nestE zs ss = 4 := by unfold nestE; rw [if_neg (by rw [hs.1]; exact c1), if_pos c2]
    rw [e1]
    have C2 := hide c2
    clear hz hs e1 B1 P0 c2
    go_enter Try.func32, Try.ntmps32
    go_wp2_with (go_at_call 63; refine HCS.out.mono ?_; rintro e w' ⟨rfl, hw'⟩; obtain rfl := hw'.symm; rw [C2.out])
    go_ret
    exact ⟨rfl, HB.out⟩
  | false =>
    have e1 : nestE zs ss = stmsE zl ss := by unfold nestE; rw [if_neg (by rw [hs.1]; exact c1), if_neg (by simp [c2]), hz.1]
    rw [e1]
    have C2 := hide c2
    clear hz hs e1 B1 P0 c2
    go_enter Try.func32, Try.ntmps32
    go_wp2_with (go_at_call 63; refine HCS.out.mono ?_; rintro e w' ⟨rfl, hw'⟩; obtain rfl := hw'.symm; rw [C2.out])
    go_loopw [16] (fun i wr => ∃ k : Nat, k ≤ tl ∧ i = .int .i64 k ∧ stmsE zl (ss.take k) = 0 ∧ Below w.heap.size w wr ∧ NsBlk wr w.heap.size za zl zc ta tl tc) (fun i _ => tl - (intOf i).toNat)
    case atStart => exact ⟨0, Nat.zero_le _, rfl, by simp [stmsE], HB.out, HP.out⟩
    case round =>
      obtain ⟨k, hk, rfl, hz, hB, hP⟩ := hrel
      have HZ := hide hz
      have HBr := hide hB
      have HP3 := hide hP
      obtain ⟨p0, p1⟩ := hP.cells
      have zP3 := hP.lt
      clear hz hB hP
      by_cases hlt : k < tl
      · have hkl : k < ss.length := by rw [HSL.out]; exact hlt
        obtain ⟨b, off, rfl, hat⟩ := (HS.out.below HBr.out).at (by omega)
        obtain ⟨q, hq, k0, k1, k2, k3, k4, k5, k6, k7⟩ := hat k hlt
        have z1 := lt_of_cell k0
        simp only at z1
        have B3 : Below wr.heap.size wr (wr.alloc (.cells q.cs 71)) := bl_new _
        have HC := hide (wrongStmt_any q _ zl _ (hq.below B3) hm1)
        obtain ⟨y0, y1, y2, y3, y4, y5, y6, y7⟩ := (SW.new q wr).cells
        obtain ⟨r0, r1⟩ := (HP3.out.below B3).cells
        have HP4 := hide (HP3.out.below B3)
        have HB3 := hide B3
        have HKL := hide hkl
        obtain ⟨aq, haq⟩ : ∃ aq, aq = ss[k]?.getD stmD := ⟨_, rfl⟩
        rw [← haq] at HC
        have HAQ := hide haq
        obtain ⟨ba, bl, bc, ra, rl, rc, kd, va, ⟨parr, pca, pcl, pcc, pcon⟩, ga, gl, gc⟩ := q
        simp only [SW.v, SW.cs] at *
        clear hat hq B3 hkl haq
        go_wp2_with (go_at_call 65; refine HC.out.mono ?_; rintro e w3 ⟨rfl, hb⟩; have HB4 := hide (bl_on HB3.out hb); have HP5 := hide (HP4.out.below hb); clear hb)
        · have hx : stmE zl aq ≠ 0 := by simpa using (by assumption : (stmE zl aq != 0) = true)
          go_ret
          refine ⟨?_, bl_on HBr.out HB4.out⟩
          rw [stmsE_here zl ss k HKL.out HZ.out (by rw [← HAQ.out]; exact hx), ← HAQ.out]; rfl
        · have hx : stmE zl aq = 0 := by simpa using (by assumption : (stmE zl aq != 0) = false)
          go_roundw
          case rel => exact ⟨k + 1, by omega, by go_num, stmsE_take zl ss k HKL.out HZ.out (by rw [← HAQ.out]; exact hx), bl_on HBr.out HB4.out, HP5.out⟩
          case measure => simp [intOf]; omega
      · go_wp2_with fail
        go_ret
        have := HZ.out
        rw [List.take_of_length_le (by rw [HSL.out]; omega)] at this
        exact ⟨by rw [this]; rfl, HBr.out⟩
end Go.Proofs.Ytoidgdbgpbcebaa.V
