/-
  Contracts: what is wrong with a nest. Contracts: what is wrong with a statement, with a nest. Contract: nest.Wrong. Contracts: the document's Time, Before. Orders: another order does the same where no two that are in each other's way change places; times have a linear order.
-/
import Derived.Test.YtmmigbkilbfheaaK10
import Derived.Test.YtmmigbkilbfheaaK11
import Derived.BigQuiet
import Derived.Test.YtmmigbkilbfheaaK8
namespace Go.Proofs.Ytmmigbkilbfheaa.V
open Go.RowKit
set_option linter.unusedVariables false

set_option maxHeartbeats 400000 in
theorem indexSize_any (a : Option Addr) (len cap : Nat) (xs : List Int) (w : World) (h : Ints w a len xs) :
    Calls Try.prog 99 #[.slice a len cap, .func (.func 67) #[] #[]] w fun e w' => (∃ r : Int, e = .returned (.int .i64 r) ∧ decide (0 ≤ r) = xs.any badSize) ∧ w' = w := by
  have hl := h.1
  have hm := h.2.1
  have HL : Hid (xs.length = len) := hl
  go_enter Try.func99, Try.ntmps99
  go_wp2
  go_loop [8] (fun i => ∃ k : Nat, k ≤ len ∧ i = .int .i64 k ∧ (xs.take k).any badSize = false) (fun i => len - (intOf i).toNat)
  case atStart => exact ⟨0, Nat.zero_le _, rfl, by simp⟩
  case round =>
    obtain ⟨k, hk, rfl, hn⟩ := hrel
    have HN : Hid ((xs.take k).any badSize = false) := hn
    clear hn hl
    by_cases hlt : k < len
    · obtain ⟨b, off, rfl, hb, hc⟩ := h.at (by omega)
      have hck := hc k hlt
      clear hc h
      by_cases h1 : xs[k]?.getD 0 < 0
      · go_wp2
        go_ret
        exact ⟨⟨_, rfl, by rw [any_of_getD xs k (by rw [HL.out]; exact hlt) (by simp [badSize, h1])]; simp⟩, rfl⟩
      · by_cases h2 : 65536 < xs[k]?.getD 0
        · go_wp2
          go_ret
          exact ⟨⟨_, rfl, by rw [any_of_getD xs k (by rw [HL.out]; exact hlt) (by simp [badSize, h2])]; simp⟩, rfl⟩
        · go_wp2
          go_round
          case rel => exact ⟨k + 1, by omega, by go_num, not_mem_take_succ xs k (by rw [HL.out]; exact hlt) HN.out (by simp [badSize]; omega)⟩
          case measure => simp [intOf]; omega
    · go_wp2
      go_ret
      refine ⟨⟨_, rfl, ?_⟩, rfl⟩
      have := HN.out
      rw [take_all HL.out hlt] at this
      rw [this]; decide
theorem containsSize_any (a : Option Addr) (len cap : Nat) (xs : List Int) (w : World) (h : Ints w a len xs) :
    Calls Try.prog 66 #[.slice a len cap, .func (.func 67) #[] #[]] w fun e w' => e = .returned (.bool (xs.any badSize)) ∧ w' = w := by
  have H : Hid (Ints w a len xs) := h
  clear h
  go_enter Try.func66, Try.ntmps66
  go_wp2_with (go_at_call 99; refine (indexSize_any _ _ _ _ _ H.out).mono ?_; rintro e w' ⟨⟨r, rfl, hr⟩, rfl⟩; have HR := hide hr; clear hr)
  go_ret
  exact ⟨by rw [← HR.out]; rfl, rfl⟩

set_option maxHeartbeats 1000000 in
theorem gets_any (k : Int) (w : World) : Calls Try.prog 100 #[.int .i64 k] w fun e w' => e = .returned (.tuple #[.int .i64 (if takesV k < 0 then 0 else takesV k), .bool (decide (0 ≤ takesV k))]) ∧ w' = w := by
  rcases kind_cases k with h | h | h | h | h | h | h | h | h | h | h
  case inr.inr.inr.inr.inr.inr.inr.inr.inr.inr =>
    rw [takes_none h]
    obtain ⟨h1, h2, h3, h4, h5, h6, h7, h8, h9, h10⟩ := h
    have k1 : (k == 1) = false := by simpa using h1
    have k2 : (k == 2) = false := by simpa using h2
    have k3 : (k == 3) = false := by simpa using h3
    have k4 : (k == 4) = false := by simpa using h4
    have k5 : (k == 5) = false := by simpa using h5
    have k6 : (k == 6) = false := by simpa using h6
    have k7 : (k == 7) = false := by simpa using h7
    have k8 : (k == 8) = false := by simpa using h8
    have k9 : (k == 9) = false := by simpa using h9
    have k10 : (k == 10) = false := by simpa using h10
    go_enter Try.func100, Try.ntmps100
    go_wp2
    go_ret2
    exact ⟨rfl, rfl⟩
  all_goals
    subst h
    go_enter Try.func100, Try.ntmps100
    go_wp2
    go_ret2
    exact ⟨rfl, rfl⟩

set_option maxHeartbeats 1000000 in
theorem wrongAccess_any (q : AW) (a : Acc) (n vars : Nat) (w : World) (h : AG w q a) (hn : n ≤ 9223372036854775807) (h4 : vars ≤ 4) :
    Calls Try.prog 101 #[q.v, .int .i64 n, .int .i64 vars] w fun e w' => e = .returned (.int .i64 (accE n a vars)) ∧ Below w.heap.size w w' := by
  have B1 : Below w.heap.size w (w.alloc (.cells #[.int .i64 q.arr, .slice q.ca q.cl q.cc, .int .i64 q.con] 71)) := bl_new _
  have P1 := AW.new q w
  obtain ⟨p0, p1, p2⟩ := P1.cells
  have h1 := h.below B1
  have HC := hide (wrongRow_any q.ca q.cl q.cc a.2.1 a.2.2 vars _ h1.coef h.bd.2 h4)
  have ha := h.arr
  have hk := h.con
  have hb1 := h.bd.1.1
  have hb2 := h.bd.1.2
  have HB := hide B1
  obtain ⟨arr, ca, cl, cc, con⟩ := q
  obtain ⟨aa, cs, ak⟩ := a
  simp only [AW.v] at *
  subst ha
  subst hk
  clear h h1 B1 P1
  by_cases c1 : arr < 0
  · have e1 : accE n (arr, cs, con) vars = 4 := by unfold accE; rw [if_pos (.inl c1)]
    rw [e1]
    clear e1
    go_enter Try.func101, Try.ntmps101
    go_wp2_with fail
    go_ret
    exact ⟨rfl, HB.out⟩
  by_cases c2 : (n : Int) ≤ arr
  · have e1 : accE n (arr, cs, con) vars = 4 := by unfold accE; rw [if_pos (.inr c2)]
    rw [e1]
    clear e1
    go_enter Try.func101, Try.ntmps101
    go_wp2_with fail
    go_ret
    exact ⟨rfl, HB.out⟩
  have e1 : accE n (arr, cs, con) vars = rowE (cs, con) vars := by unfold accE; rw [if_neg (by simp only; omega)]
  rw [e1]
  clear e1
  go_enter Try.func101, Try.ntmps101
  go_wp2_with (go_at_call 32; refine HC.out.mono ?_; rintro e w2 ⟨rfl, hb⟩; have HB2 := hide (bl_on HB.out hb); clear hb)
  go_ret
  exact ⟨rfl, HB2.out⟩
end Go.Proofs.Ytmmigbkilbfheaa.V
namespace Go.Proofs.Ytmmigbkilbfheaa.V
open Go.RowKit
set_option linter.unusedVariables false

set_option maxHeartbeats 4000000 in
theorem wrongStmt_any (q : SW) (s : Stm) (n : Nat) (w : World) (h : SG w q s) (hn : n ≤ 9223372036854775807) :
    Calls Try.prog 68 #[q.v, .int .i64 n] w fun e w' => e = .returned (.int .i64 (stmE n s)) ∧ Below w.heap.size w w' := by
  have B1 : Below w.heap.size w (w.alloc (.cells q.cs 74)) := bl_new _
  have P0 := SW.new q w
  obtain ⟨p0, p1, p2, p3, p4, p5, p6, p7⟩ := P0.cells
  have h1 := h.below B1
  have HPW := hide (ptWrong_any q.ba q.bl q.bc s.box q.ra q.rl q.rc s.rows _ h1.box.1 h1.rows)
  have HAC := hide (fun (h4 : q.bl ≤ 4) (W : World) (hb : Below w.heap.size w W) => wrongAccess_any q.pu s.put n q.bl W (h.put.below hb) hn h4)
  have HGE := hide h.gets
  have HB := hide B1
  have HP := hide P0
  have hbl := h.box.1.1
  have hgl := h.gets.1
  have hgm := h.gets.2.1
  have hkd := h.kd
  have hbm := h.box.1.2.1
  have hb1 := h.bd.1.1
  have hb2 := h.bd.1.2
  obtain ⟨ba, bl, bc, ra, rl, rc, kd, va, ⟨parr, pca, pcl, pcc, pcon⟩, ga, gl, gc⟩ := q
  obtain ⟨box, rows, kind, val, put, gets⟩ := s
  simp only [SW.v, SW.cs, AW.v] at *
  subst hkd
  clear h h1 B1 P0
  by_cases c1 : ptE box rows ≠ 0
  · have e1 : stmE n ⟨box, rows, kd, val, put, gets⟩ = ptE box rows := by unfold stmE; simp only; rw [if_pos c1]
    have c2 : (ptE box rows != 0) = true := by simpa using c1
    rw [e1]
    clear e1 c1
    go_enter Try.func68, Try.ntmps68
    go_wp2_with (go_at_call 91; refine HPW.out.mono ?_; rintro e w1 ⟨rfl, hb⟩; have HB1 := hide (bl_on HB.out hb); have P1 := HP.out.below hb; obtain ⟨p0, p1, p2, p3, p4, p5, p6, p7⟩ := P1.cells; have zP := P1.lt; have HP1 := hide P1; clear hb P1)
    go_ret
    exact ⟨rfl, HB1.out⟩
  have c1' : ptE box rows = 0 := by simpa using c1
  have C1 := hide c1'
  have h4 : bl ≤ 4 := by have := (ptE_ok c1').rank; omega
  have HAC := hide (HAC.out h4)
  by_cases c2 : takesV kd < 0
  · have e1 : stmE n ⟨box, rows, kd, val, put, gets⟩ = 1 := by unfold stmE; simp only; rw [if_neg c1, if_pos c2]
    have c3 : decide (0 ≤ takesV kd) = false := by simp; omega
    rw [e1]
    have C3 := hide c3
    clear e1 c1 c1' c3
    go_enter Try.func68, Try.ntmps68
    go_wp2_with (first | (go_at_call 91; refine HPW.out.mono ?_; rintro e w1 ⟨rfl, hb⟩; rw [C1.out]; have HB1 := hide (bl_on HB.out hb); have P1 := HP.out.below hb; obtain ⟨p0, p1, p2, p3, p4, p5, p6, p7⟩ := P1.cells; have zP := P1.lt; have HP1 := hide P1; clear hb P1) | (go_at_call 100; refine (gets_any _ _).mono ?_; rintro e w' ⟨rfl, hw'⟩; obtain rfl := hw'.symm; rw [C3.out]))
    go_ret
    exact ⟨rfl, HB1.out⟩
  have c3 : decide (0 ≤ takesV kd) = true := by simp; omega
  have tb := takes_bd kd
  have C3 := hide c3
  obtain ⟨T, hT⟩ : ∃ T, T = takesV kd := ⟨_, rfl⟩
  have E0 : Hid ((if takesV kd < 0 then 0 else takesV kd) = T) := by rw [Hid, if_neg c2, hT]
  by_cases c4 : takesV kd ≠ (gets.length : Int)
  · have e1 : stmE n ⟨box, rows, kd, val, put, gets⟩ = 2 := by unfold stmE; simp only; rw [if_neg c1, if_neg c2, if_pos c4]
    have c5 : ((gl : Int) != T) = true := by simp; omega
    rw [e1]
    clear e1 c1 c1' c3 c2 c4 tb hT
    go_enter Try.func68, Try.ntmps68
    go_wp2_with (first | (go_at_call 91; refine HPW.out.mono ?_; rintro e w1 ⟨rfl, hb⟩; rw [C1.out]; have HB1 := hide (bl_on HB.out hb); have P1 := HP.out.below hb; obtain ⟨p0, p1, p2, p3, p4, p5, p6, p7⟩ := P1.cells; have zP := P1.lt; have HP1 := hide P1; clear hb P1) | (go_at_call 100; refine (gets_any _ _).mono ?_; rintro e w' ⟨rfl, hw'⟩; obtain rfl := hw'.symm; rw [C3.out, E0.out]))
    go_ret
    exact ⟨rfl, HB1.out⟩
  have c4' : takesV kd = (gets.length : Int) := by simpa using c4
  have c5 : ((gl : Int) != T) = false := by simp; omega
  have hg3 : gl ≤ 3 := by omega
  by_cases c6 : accE n put box.length ≠ 0
  · have e1 : stmE n ⟨box, rows, kd, val, put, gets⟩ = accE n put bl := by unfold stmE; simp only; rw [if_neg c1, if_neg c2, if_neg c4, if_pos c6, hbl]
    have c7 : (accE n put bl != 0) = true := by rw [← hbl]; simpa using c6
    rw [e1]
    clear e1 c1 c1' c3 c2 c4 tb hT c6 c4'
    go_enter Try.func68, Try.ntmps68
    go_wp2_with (first | (go_at_call 91; refine HPW.out.mono ?_; rintro e w1 ⟨rfl, hb⟩; rw [C1.out]; have HB1 := hide (bl_on HB.out hb); have P1 := HP.out.below hb; obtain ⟨p0, p1, p2, p3, p4, p5, p6, p7⟩ := P1.cells; have zP := P1.lt; have HP1 := hide P1; clear hb P1) | (go_at_call 100; refine (gets_any _ _).mono ?_; rintro e w' ⟨rfl, hw'⟩; obtain rfl := hw'.symm; rw [C3.out, E0.out]) | (go_at_call 101; refine (HAC.out w1 HB1.out).mono ?_; rintro e w2 ⟨rfl, hb⟩; have HB2 := hide (bl_on HB1.out hb); have P2 := HP1.out.below hb; obtain ⟨p0, p1, p2, p3, p4, p5, p6, p7⟩ := P2.cells; have zP := P2.lt; have HP2 := hide P2; clear hb P2))
    go_ret
    exact ⟨rfl, HB2.out⟩
  have e1 : stmE n ⟨box, rows, kd, val, put, gets⟩ = accsE n gets bl := by unfold stmE; simp only; rw [if_neg c1, if_neg c2, if_neg c4, if_neg c6, hbl]
  have c7 : accE n put bl = 0 := by rw [← hbl]; simpa using c6
  have C7 := hide c7
  have HGL := hide hgl
  rw [e1]
  clear e1 c1 c1' c3 c2 c4 tb hT c6 c4' c7
  go_enter Try.func68, Try.ntmps68
  go_wp2_with (first | (go_at_call 91; refine HPW.out.mono ?_; rintro e w1 ⟨rfl, hb⟩; rw [C1.out]; have HB1 := hide (bl_on HB.out hb); have P1 := HP.out.below hb; obtain ⟨p0, p1, p2, p3, p4, p5, p6, p7⟩ := P1.cells; have zP := P1.lt; have HP1 := hide P1; clear hb P1) | (go_at_call 100; refine (gets_any _ _).mono ?_; rintro e w' ⟨rfl, hw'⟩; obtain rfl := hw'.symm; rw [C3.out, E0.out]) | (go_at_call 101; refine (HAC.out w1 HB1.out).mono ?_; rintro e w2 ⟨rfl, hb⟩; rw [C7.out]; have HB2 := hide (bl_on HB1.out hb); have P2 := HP1.out.below hb; obtain ⟨p0, p1, p2, p3, p4, p5, p6, p7⟩ := P2.cells; have zP := P2.lt; have HP2 := hide P2; clear hb P2))
  go_loopw [45] (fun i wr => ∃ k : Nat, k ≤ gl ∧ i = .int .i64 k ∧ accsE n (gets.take k) bl = 0 ∧ Below w2.heap.size w2 wr) (fun i _ => gl - (intOf i).toNat)
  case atStart => exact ⟨0, Nat.zero_le _, rfl, by simp [accsE], Below.refl _ _⟩
  case round =>
    obtain ⟨k, hk, rfl, hz, hB⟩ := hrel
    have HZ := hide hz
    have HBr := hide hB
    have P3 := HP2.out.below hB
    obtain ⟨p0, p1, p2, p3, p4, p5, p6, p7⟩ := P3.cells
    have zP3 := P3.lt
    have HP3 := hide P3
    clear hz hB P3
    simp only at p0 p1 p2 p3 p4 p5 p6 p7
    by_cases hlt : k < gl
    · have hkl : k < gets.length := by rw [HGL.out]; exact hlt
      obtain ⟨b, off, rfl, hat⟩ := (HGE.out.below (bl_on HB2.out HBr.out)).at (by omega)
      obtain ⟨q, hq, k1, k2, k3⟩ := (hat k hlt).words
      have z1 := lt_of_cell k1
      simp only at z1
      have B3 : Below wr.heap.size wr (wr.alloc (.cells #[.int .i64 q.arr, .slice q.ca q.cl q.cc, .int .i64 q.con] 71)) := bl_new _
      have HC := hide (wrongAccess_any q _ n bl _ (hq.below B3) hn h4)
      obtain ⟨y0, y1, y2⟩ := (AW.new q wr).cells
      obtain ⟨r0, r1, r2, r3, r4, r5, r6, r7⟩ := (HP3.out.below B3).cells
      have HP4 := hide (HP3.out.below B3)
      have HB3 := hide B3
      have HKL := hide hkl
      obtain ⟨aq, haq⟩ : ∃ aq, aq = gets[k]?.getD accD := ⟨_, rfl⟩
      rw [← haq] at HC
      have HAQ := hide haq
      obtain ⟨arr, ca, cl, cc, con⟩ := q
      simp only [AW.v] at *
      clear hat hq B3 hkl haq
      go_wp2_with (go_at_call 101; refine HC.out.mono ?_; rintro e w3 ⟨rfl, hb⟩; have HB4 := hide (bl_on HB3.out hb); clear hb)
      · have hx : accE n aq bl ≠ 0 := by simpa using (by assumption : (accE n aq bl != 0) = true)
        go_ret
        refine ⟨?_, bl_on HB2.out (bl_on HBr.out HB4.out)⟩
        rw [accsE_here n gets bl k HKL.out HZ.out (by rw [← HAQ.out]; exact hx), ← HAQ.out]; rfl
      · have hx : accE n aq bl = 0 := by simpa using (by assumption : (accE n aq bl != 0) = false)
        go_roundw
        case rel => exact ⟨k + 1, by omega, by go_num, accsE_take n gets bl k HKL.out HZ.out (by rw [← HAQ.out]; exact hx), bl_on HBr.out HB4.out⟩
        case measure => simp [intOf]; omega
    · go_wp2_with fail
      go_ret
      have := HZ.out
      rw [List.take_of_length_le (by rw [HGL.out]; omega)] at this
      exact ⟨by rw [this]; rfl, bl_on HB2.out HBr.out⟩
end Go.Proofs.Ytmmigbkilbfheaa.V
namespace Go.Proofs.Ytmmigbkilbfheaa.V
open Go.RowKit
set_option linter.unusedVariables false

set_option maxHeartbeats 4000000 in
theorem nestWrong_any (za : Option Addr) (zl zc : Nat) (zs : List Int) (ta : Option Addr) (tl tc : Nat) (ss : List Stm) (w : World) (hz : Ints w za zl zs) (hs : Stms w ta tl ss) :
    Calls Try.prog 31 #[.agg #[.slice za zl zc, .slice ta tl tc]] w fun e w' => e = .returned (.int .i64 (nestE zs ss)) ∧ Below w.heap.size w w' := by
  have B1 : Below w.heap.size w (w.alloc (.cells #[.slice za zl zc, .slice ta tl tc] 25)) := bl_new _
  have P0 := NsBlk.new w za zl zc ta tl tc
  obtain ⟨p0, p1⟩ := P0.cells
  have HCS := hide (containsSize_any za zl zc zs _ (hz.below B1))
  have HS := hide hs
  have HB := hide B1
  have HP := hide P0
  have hm1 := hz.2.1
  have hm2 := hs.2.1
  have HZL := hide hz.1
  have HSL := hide hs.1
  by_cases c1 : 256 < tl
  · have e1 : nestE zs ss = 2 := by unfold nestE; rw [if_pos (by rw [hs.1]; exact c1)]
    rw [e1]
    clear hz hs e1 B1 P0
    go_enter Try.func31, Try.ntmps31
    go_wp2_with fail
    go_ret
    exact ⟨rfl, HB.out⟩
  cases c2 : zs.any badSize with
  | true =>
    have e1 : nestE zs ss = 4 := by unfold nestE; rw [if_neg (by rw [hs.1]; exact c1), if_pos c2]
    rw [e1]
    have C2 := hide c2
    clear hz hs e1 B1 P0 c2
    go_enter Try.func31, Try.ntmps31
    go_wp2_with (go_at_call 66; refine HCS.out.mono ?_; rintro e w' ⟨rfl, hw'⟩; obtain rfl := hw'.symm; rw [C2.out])
    go_ret
    exact ⟨rfl, HB.out⟩
  | false =>
    have e1 : nestE zs ss = stmsE zl ss := by unfold nestE; rw [if_neg (by rw [hs.1]; exact c1), if_neg (by simp [c2]), hz.1]
    rw [e1]
    have C2 := hide c2
    clear hz hs e1 B1 P0 c2
    go_enter Try.func31, Try.ntmps31
    go_wp2_with (go_at_call 66; refine HCS.out.mono ?_; rintro e w' ⟨rfl, hw'⟩; obtain rfl := hw'.symm; rw [C2.out])
    go_loopw [16] (fun i wr => ∃ k : Nat, k ≤ tl ∧ i = .int .i64 k ∧ stmsE zl (ss.take k) = 0 ∧ Below w.heap.size w wr ∧ NsBlk wr w.heap.size za zl zc ta tl tc) (fun i _ => tl - (intOf i).toNat)
    case atStart => exact ⟨0, Nat.zero_le _, rfl, by simp [stmsE], HB.out, HP.out⟩
    case round =>
      obtain ⟨k, hk, rfl, hz, hB, hP⟩ := hrel
      have HZ := hide hz
      have HBr := hide hB
      have HP3 := hide hP
      obtain ⟨p0, p1⟩ := hP.cells
      have zP3 := hP.lt
      clear hz hB hP
      by_cases hlt : k < tl
      · have hkl : k < ss.length := by rw [HSL.out]; exact hlt
        obtain ⟨b, off, rfl, hat⟩ := (HS.out.below HBr.out).at (by omega)
        obtain ⟨q, hq, k0, k1, k2, k3, k4, k5, k6, k7⟩ := hat k hlt
        have z1 := lt_of_cell k0
        simp only at z1
        have B3 : Below wr.heap.size wr (wr.alloc (.cells q.cs 74)) := bl_new _
        have HC := hide (wrongStmt_any q _ zl _ (hq.below B3) hm1)
        obtain ⟨y0, y1, y2, y3, y4, y5, y6, y7⟩ := (SW.new q wr).cells
        obtain ⟨r0, r1⟩ := (HP3.out.below B3).cells
        have HP4 := hide (HP3.out.below B3)
        have HB3 := hide B3
        have HKL := hide hkl
        obtain ⟨aq, haq⟩ : ∃ aq, aq = ss[k]?.getD stmD := ⟨_, rfl⟩
        rw [← haq] at HC
        have HAQ := hide haq
        obtain ⟨ba, bl, bc, ra, rl, rc, kd, va, ⟨parr, pca, pcl, pcc, pcon⟩, ga, gl, gc⟩ := q
        simp only [SW.v, SW.cs] at *
        clear hat hq B3 hkl haq
        go_wp2_with (go_at_call 68; refine HC.out.mono ?_; rintro e w3 ⟨rfl, hb⟩; have HB4 := hide (bl_on HB3.out hb); have HP5 := hide (HP4.out.below hb); clear hb)
        · have hx : stmE zl aq ≠ 0 := by simpa using (by assumption : (stmE zl aq != 0) = true)
          go_ret
          refine ⟨?_, bl_on HBr.out HB4.out⟩
          rw [stmsE_here zl ss k HKL.out HZ.out (by rw [← HAQ.out]; exact hx), ← HAQ.out]; rfl
        · have hx : stmE zl aq = 0 := by simpa using (by assumption : (stmE zl aq != 0) = false)
          go_roundw
          case rel => exact ⟨k + 1, by omega, by go_num, stmsE_take zl ss k HKL.out HZ.out (by rw [← HAQ.out]; exact hx), bl_on HBr.out HB4.out, HP5.out⟩
          case measure => simp [intOf]; omega
      · go_wp2_with fail
        go_ret
        have := HZ.out
        rw [List.take_of_length_le (by rw [HSL.out]; omega)] at this
        exact ⟨by rw [this]; rfl, HBr.out⟩
end Go.Proofs.Ytmmigbkilbfheaa.V
namespace Go.Proofs.Ytmmigbkilbfheaa.V
open Go.RowKit
set_option linter.unusedVariables false

/-- An array of eight numbers. -/
def arr8 (f : Nat → Int) : Value := .agg #[.int .i64 (f 0), .int .i64 (f 1), .int .i64 (f 2), .int .i64 (f 3), .int .i64 (f 4), .int .i64 (f 5), .int .i64 (f 6), .int .i64 (f 7)]
def cs8 (f : Nat → Int) : Array Value := #[.int .i64 (f 0), .int .i64 (f 1), .int .i64 (f 2), .int .i64 (f 3), .int .i64 (f 4), .int .i64 (f 5), .int .i64 (f 6), .int .i64 (f 7)]
theorem cs8_at (f : Nat → Int) (i : Nat) (hi : i < 8) : (cs8 f)[i]? = some (.int .i64 (f i)) := by
  have : i = 0 ∨ i = 1 ∨ i = 2 ∨ i = 3 ∨ i = 4 ∨ i = 5 ∨ i = 6 ∨ i = 7 := by omega
  rcases this with rfl | rfl | rfl | rfl | rfl | rfl | rfl | rfl <;> rfl
theorem row8 {w : World} {b : Nat} {t : TypeId} (f : Nat → Int) (h : w.heap[b]? = some (.cells (cs8 f) t (0, 0))) : w.rowIs b t 8 (fun j => .int .i64 (f j)) := ⟨_, h, rfl, fun i hi => cs8_at f i hi⟩
/-- The time of a spot: noughts behind the rows' numbers. -/
def timeV (rows : List (List Int × Int)) (x : List Int) (k : Nat) : Int := if k < rows.length then worthV (rows[k]?.getD ([], 0)) x else 0
/-- Is one time ahead of another? From place k on, n places. -/
def befN (f g : Nat → Int) : Nat → Nat → Bool
  | 0, _ => false
  | n + 1, k => if f k ≠ g k then decide (f k < g k) else befN f g n (k + 1)
def befB (f g : Nat → Int) : Bool := befN f g 8 0
theorem befN_skip (f g : Nat → Int) : ∀ (n k : Nat), (∀ j, j < k → f j = g j) → befN f g (k + n) 0 = befN f g n k
  | n, 0, _ => by rw [Nat.zero_add]
  | n, k + 1, h => by
    have e := befN_skip f g (n + 1) k (fun j hj => h j (by omega))
    rw [show k + 1 + n = k + (n + 1) by omega, e]
    simp only [befN]
    rw [if_neg (by simpa using h k (by omega))]
theorem befB_here {f g : Nat → Int} {k : Nat} (hk : k < 8) (h : ∀ j, j < k → f j = g j) (hn : f k ≠ g k) : befB f g = decide (f k < g k) := by
  unfold befB
  rw [show 8 = k + ((7 - k) + 1) by omega, befN_skip f g _ k h]
  simp only [befN]
  rw [if_pos hn]
theorem befB_same {f g : Nat → Int} (h : ∀ j, j < 8 → f j = g j) : befB f g = false := by
  unfold befB
  have := befN_skip f g 0 8 h
  rw [Nat.add_zero] at this
  rw [this]
  rfl

set_option maxRecDepth 100000 in
set_option maxHeartbeats 2000000 in
theorem rBefore_any (f g : Nat → Int) (w : World) : Calls Try.prog 44 #[arr8 f, arr8 g] w fun e w' => e = .returned (.bool (befB f g)) ∧ Below w.heap.size w w' := by
  have B1 : Below w.heap.size w ((w.alloc (.cells (cs8 f) 57)).alloc (.cells (cs8 g) 57)) := bl_on (bl_new _) (bl_new _)
  have R1 := (row8 (w := (w.alloc (.cells (cs8 f) 57)).alloc (.cells (cs8 g) 57)) (b := w.heap.size) (t := 57) f ((Below.heap_alloc _ _ _ (by simp)).trans (World.alloc_heap_new w _)))
  have R2 := (row8 (w := (w.alloc (.cells (cs8 f) 57)).alloc (.cells (cs8 g) 57)) (b := w.heap.size + 1) (t := 57) g (by have := World.alloc_heap_new (w.alloc (.cells (cs8 f) 57)) (.cells (cs8 g) 57); rw [World.size_alloc] at this; exact this))
  obtain ⟨W, hW⟩ : ∃ W, W = (w.alloc (.cells (cs8 f) 57)).alloc (.cells (cs8 g) 57) := ⟨_, rfl⟩
  rw [← hW] at B1 R1 R2
  have HB := hide B1
  have HR1 := hide R1
  have HR2 := hide R2
  have HW := hide hW
  have z1 := R1.lt
  have z2 := R2.lt
  clear hW B1 R1 R2
  simp only [arr8]
  unfold cs8 at HW
  go_enter Try.func44, Try.ntmps44
  go_wp2_with fail
  rw [← HW.out]
  go_loopw [6] (fun i wr => ∃ k : Nat, k ≤ 8 ∧ i = .int .i64 k ∧ (∀ j, j < k → f j = g j) ∧ ∃ n, wr = W.drewN n) (fun i _ => 8 - (intOf i).toNat)
  case atStart => exact ⟨0, Nat.zero_le _, rfl, fun j hj => by omega, 0, rfl⟩
  case round =>
    obtain ⟨k, hk, rfl, hE, n, rfl⟩ := hrel
    have HE := hide hE
    clear hE
    by_cases hlt : k < 8
    · have c1 := HR1.out.cell hlt
      have c2 := HR2.out.cell hlt
      have HH := hide (fun hn => befB_here (f := f) (g := g) hlt HE.out hn)
      have HS : Hid (f k = g k → ∀ j, j < k + 1 → f j = g j) := fun e j hj => by
        by_cases ej : j = k
        · subst ej; exact e
        · exact HE.out j (by omega)
      obtain ⟨a, ha⟩ : ∃ a, a = f k := ⟨_, rfl⟩
      obtain ⟨b, hb⟩ : ∃ b, b = g k := ⟨_, rfl⟩
      rw [← ha] at c1 HH HS
      rw [← hb] at c2 HH HS
      clear ha hb
      by_cases q : a = b
      · have q1 : (a != b) = false := by simpa using q
        have HS2 := hide (HS.out q)
        clear q HS HH
        go_wp2_with fail
        go_quiet (fail)
        go_wp2_with fail
        go_roundw
        case rel => exact ⟨k + 1, by omega, by go_num, HS2.out, _, rfl⟩
        case measure => simp [intOf]; omega
      · have q1 : (a != b) = true := by simpa using q
        have HH2 := hide (HH.out q)
        clear q HS HH
        go_wp2_with fail
        go_quiet (fail)
        go_wp2_with fail
        go_quiet (fail)
        go_wp2_with fail
        go_ret
        exact ⟨by rw [HH2.out]; rfl, bl_on HB.out (bl_on (below_drewN _ n) (bl_on (below_drewN _ _) (below_drewN _ _)))⟩
    · have HH : Hid (befB f g = false) := befB_same (fun j hj => HE.out j (by omega))
      go_wp2_with fail
      go_ret
      exact ⟨by rw [HH.out]; rfl, bl_on HB.out (below_drewN _ _)⟩
/-- The words of a spot in a block. -/
def SpBlk (w : World) (b : Nat) (i : Nat) (xa : Option Addr) (xl xc : Nat) : Prop := w.heap[b]? = some (.cells #[.int .i64 (i : Int), .slice xa xl xc] 29 (0, 0))
theorem SpBlk.cells {w : World} {b i : Nat} {xa : Option Addr} {xl xc : Nat} (h : SpBlk w b i xa xl xc) : w.cell? ⟨b, 0, none⟩ = some (.int .i64 (i : Int)) ∧ w.cell? ⟨b, 1, none⟩ = some (.slice xa xl xc) := by
  unfold SpBlk at h
  refine ⟨?_, ?_⟩ <;> simp [World.cell?, h]
theorem SpBlk.lt {w : World} {b i : Nat} {xa : Option Addr} {xl xc : Nat} (h : SpBlk w b i xa xl xc) : b < w.heap.size := (Array.getElem?_eq_some_iff.1 h).1
theorem SpBlk.below {w w' : World} {b i : Nat} {xa : Option Addr} {xl xc : Nat} (h : SpBlk w b i xa xl xc) (hb : Below w.heap.size w w') : SpBlk w' b i xa xl xc := (hb.block b h.lt).trans h

/-- Times in memory. -/
def TimesA (w : World) (a : Option Addr) (len : Nat) (T : List (List (List Int × Int))) : Prop := T.length = len ∧ len ≤ 9223372036854775807 ∧ (len = 0 ∨ ∃ b off, a = some ⟨b, off, none⟩ ∧ ∀ i, i < len → ∃ x l c, w.cell? ⟨b, off + i, none⟩ = some (.slice x l c) ∧ Rws w x l (T[i]?.getD []))
theorem TimesA.below {w w' : World} {a : Option Addr} {len : Nat} {T : List (List (List Int × Int))} (h : TimesA w a len T) (hb : Below w.heap.size w w') : TimesA w' a len T := by
  obtain ⟨h1, h2, h3⟩ := h
  refine ⟨h1, h2, ?_⟩
  rcases h3 with h3 | ⟨b, off, e, h⟩
  · exact .inl h3
  · refine .inr ⟨b, off, e, fun i hi => ?_⟩
    obtain ⟨x, l, c, k1, k2⟩ := h i hi
    exact ⟨x, l, c, (hb.cell (p := ⟨b, off + i, none⟩) (lt_of_cell k1)).trans k1, k2.below hb⟩
theorem TimesA.at {w : World} {a : Option Addr} {len : Nat} {T : List (List (List Int × Int))} (h : TimesA w a len T) (h0 : 0 < len) : ∃ b off, a = some ⟨b, off, none⟩ ∧ ∀ i, i < len → ∃ x l c, w.cell? ⟨b, off + i, none⟩ = some (.slice x l c) ∧ Rws w x l (T[i]?.getD []) := by
  rcases h.2.2 with h3 | h3
  · omega
  · exact h3

/-- Eight stores. -/
def put8 (w : World) (b : Nat) (f : Nat → Value) : World := (((((((w.setCell ⟨b, 0, none⟩ (f 0)).setCell ⟨b, 1, none⟩ (f 1)).setCell ⟨b, 2, none⟩ (f 2)).setCell ⟨b, 3, none⟩ (f 3)).setCell ⟨b, 4, none⟩ (f 4)).setCell ⟨b, 5, none⟩ (f 5)).setCell ⟨b, 6, none⟩ (f 6)).setCell ⟨b, 7, none⟩ (f 7)
theorem set8 {w : World} {b : Nat} {t : TypeId} {g : Nat → Value} (h : w.rowIs b t 8 g) (f : Nat → Value) : (put8 w b f).rowIs b t 8 f := by
  refine ((((((((h.set 0 (f 0)).set 1 (f 1)).set 2 (f 2)).set 3 (f 3)).set 4 (f 4)).set 5 (f 5)).set 6 (f 6)).set 7 (f 7)).congr (fun j hj => ?_)
  have : j = 0 ∨ j = 1 ∨ j = 2 ∨ j = 3 ∨ j = 4 ∨ j = 5 ∨ j = 6 ∨ j = 7 := by omega
  rcases this with rfl | rfl | rfl | rfl | rfl | rfl | rfl | rfl <;> rfl
theorem below8 {N : Nat} {w0 w : World} (h : Below N w0 w) {b : Nat} (hb : N ≤ b) (f : Nat → Value) : Below N w0 (put8 w b f) :=
  (((((((h.setCell (p := ⟨b, 0, none⟩) hb _).setCell (p := ⟨b, 1, none⟩) hb _).setCell (p := ⟨b, 2, none⟩) hb _).setCell (p := ⟨b, 3, none⟩) hb _).setCell (p := ⟨b, 4, none⟩) hb _).setCell (p := ⟨b, 5, none⟩) hb _).setCell (p := ⟨b, 6, none⟩) hb _).setCell (p := ⟨b, 7, none⟩) hb _

set_option maxRecDepth 100000 in
set_option maxHeartbeats 4000000 in
theorem rTime_any (ta : Option Addr) (tl tc : Nat) (T : List (List (List Int × Int))) (i : Nat) (xa : Option Addr) (xl xc : Nat) (x : List Int) (w : World) (hT : TimesA w ta tl T) (hi : i < tl) (hx : Ints w xa xl x) (hx4 : xl ≤ 4) (hxb : ∀ y ∈ x, 0 ≤ y ∧ y ≤ 4096) (h8 : (T[i]?.getD []).length ≤ 8)
    (hr : ∀ r ∈ T[i]?.getD [], r.1.length = xl ∧ (-1048576 ≤ r.2 ∧ r.2 ≤ 1048576) ∧ ∀ c ∈ r.1, -1048576 ≤ c ∧ c ≤ 1048576) :
    Calls Try.prog 45 #[.slice ta tl tc, .agg #[.int .i64 (i : Int), .slice xa xl xc]] w fun e w' => e = .returned (arr8 (timeV (T[i]?.getD []) x)) ∧ Below w.heap.size w w' := by
  have HT := hide hT
  have HX := hide hx
  have HXB := hide hxb
  have HR := hide hr
  have hm := hT.2.1
  obtain ⟨tb, to, rfl, hat⟩ := hT.at (by omega)
  obtain ⟨ra, rl, rc, r1, r2⟩ := hat i hi
  obtain ⟨rows, hrows⟩ : ∃ rows, rows = T[i]?.getD [] := ⟨_, rfl⟩
  rw [← hrows] at h8 r2 HR
  rw [← hrows]
  have HRW := hide r2
  have HRL := hide r2.1
  have hrl8 : rl ≤ 8 := by have := r2.1; omega
  obtain ⟨W, hW⟩ : ∃ W, W = ((w.alloc (.cells #[.int .i64 (i : Int), .slice xa xl xc] 29)).alloc (.cells (cs8 fun _ => 0) 57)).alloc (.cells (cs8 fun _ => 0) 57) := ⟨_, rfl⟩
  have BW : Below w.heap.size w W := by rw [hW]; exact bl_on (bl_new _) (bl_on (bl_new _) (bl_new _))
  have SB : SpBlk W w.heap.size i xa xl xc := by
    rw [hW]
    exact (Below.heap_alloc _ _ _ (by simp; omega)).trans ((Below.heap_alloc _ _ _ (by simp)).trans (World.alloc_heap_new w _))
  have R4 : W.rowIs (w.heap.size + 1) 57 8 (fun j => .int .i64 0) := by
    refine row8 (fun _ => 0) ?_
    rw [hW]
    refine (Below.heap_alloc _ _ _ (by simp)).trans ?_
    have := World.alloc_heap_new (w.alloc (.cells #[.int .i64 (i : Int), .slice xa xl xc] 29)) (.cells (cs8 fun _ => 0) 57)
    rw [World.size_alloc] at this
    exact this
  have R5 : W.rowIs (w.heap.size + 1 + 1) 57 8 (fun j => .int .i64 (if j < 0 then timeV rows x j else 0)) := by
    refine (row8 (fun _ => 0) ?_).congr (fun j hj => by simp)
    rw [hW]
    have := World.alloc_heap_new ((w.alloc (.cells #[.int .i64 (i : Int), .slice xa xl xc] 29)).alloc (.cells (cs8 fun _ => 0) 57)) (.cells (cs8 fun _ => 0) 57)
    rw [World.size_alloc, World.size_alloc] at this
    exact this
  obtain ⟨s0, s1⟩ := SB.cells
  have zS := SB.lt
  have r1' := (BW.cell (p := ⟨tb, to + i, none⟩) (lt_of_cell r1)).trans r1
  have zr := lt_of_cell r1'
  simp only at zr
  have HW := hide hW
  have HBW := hide BW
  have HSB := hide SB
  have HR4 := hide R4
  have HR5 := hide R5
  unfold cs8 at HW
  clear hT hx hxb hr hat hrows r2 hW BW SB R4 R5 r1 h8
  rw [HW.out] at r1' s0 s1 zr zS
  go_enter Try.func45, Try.ntmps45
  go_wp2_with fail
  rw [← HW.out]
  clear s0 s1 r1' zr
  go_loopw [14] (fun i' wr => ∃ k : Nat, k ≤ rl ∧ i' = .int .i64 k ∧ Below w.heap.size w wr ∧ SpBlk wr w.heap.size i xa xl xc ∧ wr.rowIs (w.heap.size + 1) 57 8 (fun j => .int .i64 0) ∧ wr.rowIs (w.heap.size + 1 + 1) 57 8 (fun j => .int .i64 (if j < k then timeV rows x j else 0))) (fun i' _ => rl - (intOf i').toNat)
  case atStart => exact ⟨0, Nat.zero_le _, rfl, HBW.out, HSB.out, HR4.out, HR5.out⟩
  case round =>
    clear HBW HSB HR4 HR5
    obtain ⟨k, hk, rfl, hB, hS, hR4, hR5⟩ := hrel
    have HB := hide hB
    have HS := hide hS
    have HR4 := hide hR4
    have HR5 := hide hR5
    have zS := hS.lt
    have z5 := hR5.lt
    have z4 := hR4.lt
    clear hB hS hR4 hR5
    by_cases hlt : k < rl
    · have hkl : k < rows.length := by rw [HRL.out]; exact hlt
      obtain ⟨b, off, rfl, hat⟩ := (HRW.out.below HB.out).at (by omega)
      obtain ⟨ca, cl, cc, k1, k2, k3, k4, k5⟩ := hat k hlt
      have y1 := lt_of_cell k1
      have y2 := lt_of_cell k2
      simp only at y1 y2
      have hrow := HR.out _ (mem_getR rows k hkl)
      have HTV : Hid (timeV rows x k = worthV (rows[k]?.getD ([], 0)) x) := by unfold Hid timeV; rw [if_pos hkl]
      obtain ⟨q, hq⟩ : ∃ q, q = rows[k]?.getD ([], 0) := ⟨_, rfl⟩
      rw [← hq] at k2 k3 k5 hrow HTV
      obtain ⟨cs, K⟩ := q
      simp only at k2 k3 k5 hrow
      have B3 : Below wr.heap.size wr (wr.alloc (.cells #[.slice ca cl cc, .int .i64 K] 51)) := bl_new _
      have hll : cl = xl := by have := k3.1; omega
      have HAT := hide (rAt_any ca cl cc cs K xa xl xc x _ (k3.below B3) ((HX.out.below HB.out).below B3) hll (by omega) hrow.2.1 hrow.2.2 HXB.out)
      obtain ⟨s0, s1⟩ := (HS.out.below B3).cells
      have HB3 := hide B3
      obtain rfl := hll.symm
      clear hat k3 k4 k5 hq hrow B3 hkl
      go_wp2_with fail
      refine HAT.out.mono ?_
      rintro e w2 ⟨rfl, hb⟩
      have HB4 := hide (bl_on HB3.out hb)
      have R5 : w2.rowIs (w.heap.size + 1 + 1) 57 8 (fun j => .int .i64 (if j < k then timeV rows x j else 0)) := HR5.out.of_block (HB4.out.block _ z5)
      have c5 := R5.cell (i := k) (by omega)
      have f5 := R5.frozen k
      have z52 := R5.lt
      have HR52 := hide R5
      obtain ⟨V, hV⟩ : ∃ V, V = worthV (cs, K) x := ⟨_, rfl⟩
      rw [← hV] at HTV
      rw [← hV]
      have hk8 : k < 8 := by omega
      clear hb R5 hV k1 k2
      go_wp2_with fail
      go_roundw
      case rel =>
        refine ⟨k + 1, by omega, by go_num, (bl_on HB.out HB4.out).setCell (p := ⟨w.heap.size + 1 + 1, k, none⟩) (by simp only; omega) _, ?_, ?_, ?_⟩
        · exact (Below.heap_setCell _ ⟨w.heap.size + 1 + 1, k, none⟩ _ w.heap.size (by simp only; omega)).trans ((HB4.out.block _ zS).trans HS.out)
        · exact (World.rowIs.of_block HR4.out (HB4.out.block _ z4)).setOther (a := ⟨w.heap.size + 1 + 1, k, none⟩) (by simp only; omega) _
        · refine (HR52.out.set k _).congr (fun j hj => ?_)
          by_cases e : j = k
          · subst e; simp [HTV.out]
          · rw [if_neg e]
            congr 1
            by_cases e2 : j < k
            · rw [if_pos e2, if_pos (by omega)]
            · rw [if_neg e2, if_neg (by omega)]
      case measure => simp [intOf]; omega
    · obtain rfl : rl = k := by omega
      have R5 : wr.rowIs (w.heap.size + 1 + 1) 57 8 (fun j => .int .i64 (timeV rows x j)) := HR5.out.congr (fun j hj => by
        by_cases e : j < rl
        · rw [if_pos e]
        · rw [if_neg e]; unfold timeV; rw [if_neg (by rw [HRL.out]; exact e)])
      have c0 := R5.cell (i := 0) (by omega)
      have c1 := R5.cell (i := 1) (by omega)
      have c2 := R5.cell (i := 2) (by omega)
      have c3 := R5.cell (i := 3) (by omega)
      have c4 := R5.cell (i := 4) (by omega)
      have c5 := R5.cell (i := 5) (by omega)
      have c6 := R5.cell (i := 6) (by omega)
      have c7 := R5.cell (i := 7) (by omega)
      have d0 := HR4.out.cell (i := 0) (by omega)
      have d1 := HR4.out.cell (i := 1) (by omega)
      have d2 := HR4.out.cell (i := 2) (by omega)
      have d3 := HR4.out.cell (i := 3) (by omega)
      have d4 := HR4.out.cell (i := 4) (by omega)
      have d5 := HR4.out.cell (i := 5) (by omega)
      have d6 := HR4.out.cell (i := 6) (by omega)
      have d7 := HR4.out.cell (i := 7) (by omega)
      have e0 := HR4.out.frozen 0
      have e1 := HR4.out.frozen 1
      have e2 := HR4.out.frozen 2
      have e3 := HR4.out.frozen 3
      have e4 := HR4.out.frozen 4
      have e5 := HR4.out.frozen 5
      have e6 := HR4.out.frozen 6
      have e7 := HR4.out.frozen 7
      clear R5
      go_wp2_with fail
      have RF := set8 HR4.out (fun j => .int .i64 (timeV rows x j))
      have BF := below8 HB.out (b := w.heap.size + 1) (by omega) (fun j => .int .i64 (timeV rows x j))
      have hput : ((((((((wr.setCell ⟨w.heap.size + 1, 0, none⟩ (Value.int .i64 (timeV rows x 0))).setCell ⟨w.heap.size + 1, 1, none⟩ (Value.int .i64 (timeV rows x 1))).setCell ⟨w.heap.size + 1, 2, none⟩ (Value.int .i64 (timeV rows x 2))).setCell ⟨w.heap.size + 1, 3, none⟩ (Value.int .i64 (timeV rows x 3))).setCell ⟨w.heap.size + 1, 4, none⟩ (Value.int .i64 (timeV rows x 4))).setCell ⟨w.heap.size + 1, 5, none⟩ (Value.int .i64 (timeV rows x 5))).setCell ⟨w.heap.size + 1, 6, none⟩ (Value.int .i64 (timeV rows x 6))).setCell ⟨w.heap.size + 1, 7, none⟩ (Value.int .i64 (timeV rows x 7))) = put8 wr (w.heap.size + 1) (fun j => .int .i64 (timeV rows x j)) := rfl
      rw [hput]
      clear hput
      generalize put8 wr (w.heap.size + 1) (fun j => .int .i64 (timeV rows x j)) = wf at RF BF ⊢
      have HBF := hide BF
      clear BF
      have g0 := RF.cell (i := 0) (by omega)
      have g1 := RF.cell (i := 1) (by omega)
      have g2 := RF.cell (i := 2) (by omega)
      have g3 := RF.cell (i := 3) (by omega)
      have g4 := RF.cell (i := 4) (by omega)
      have g5 := RF.cell (i := 5) (by omega)
      have g6 := RF.cell (i := 6) (by omega)
      have g7 := RF.cell (i := 7) (by omega)
      refine bodyPost_ret (v := arr8 (timeV rows x)) (by simp [results, Try.results45, go_sem, arr8, g0, g1, g2, g3, g4, g5, g6, g7]) rfl ⟨rfl, ?_⟩
      exact HBF.out
end Go.Proofs.Ytmmigbkilbfheaa.V
namespace Go.Proofs.Ytmmigbkilbfheaa.V
open Go.RowKit
set_option linter.unusedVariables false

/-- All spots in another order: any two that change places commute. -/
theorem fold_perm {α β : Type} (f : β → α → β) (Good : β → Prop) (hG : ∀ b a, Good b → Good (f b a)) : ∀ (S' S : List α) (M : β), Good M → S'.Perm S → S.Nodup → (∀ a b, [b, a].Sublist S → [a, b].Sublist S' → ∀ N, Good N → f (f N b) a = f (f N a) b) → S.foldl f M = S'.foldl f M
  | [], S, M, hM, hp, _, _ => by
    have : S = [] := by have := hp.length_eq; simpa using this.symm
    rw [this]
  | a :: T, S, M, hM, hp, hn, h => by
    have ha : a ∈ S := hp.subset (by simp)
    obtain ⟨pre, post, hS⟩ := List.append_of_mem ha
    subst hS
    have hp2 : T.Perm (pre ++ post) := by
      have h1 : (pre ++ a :: post).Perm (a :: (pre ++ post)) := List.perm_middle
      exact (List.perm_cons a).1 (hp.trans h1)
    have hn2 : (a :: (pre ++ post)).Nodup := (List.perm_middle.nodup_iff).1 hn
    have hn3 := (List.nodup_cons.1 hn2)
    rw [fold_front f Good hG a post pre M hM (fun b hb N hN => ?_)]
    · rw [List.foldl_cons]
      refine fold_perm f Good hG T (pre ++ post) (f M a) (hG _ _ hM) hp2 hn3.2 (fun c b h1 h2 => h c b (h1.trans ?_) (h2.trans (List.sublist_cons_self a T)))
      exact List.Sublist.append (List.Sublist.refl pre) (List.sublist_cons_self a post)
    · refine h a b ?_ ?_ N hN
      · have h1 : [b].Sublist pre := List.singleton_sublist.2 hb
        have h2 : [a].Sublist (a :: post) := List.singleton_sublist.2 (by simp)
        exact List.Sublist.append h1 h2
      · have hbT : b ∈ T := hp2.symm.subset (by simp [hb])
        exact List.Sublist.cons_cons a (List.singleton_sublist.2 hbT)

/-- Times have a linear order. -/
theorem befN_irr (f : Nat → Int) : ∀ n k, befN f f n k = false
  | 0, _ => rfl
  | n + 1, k => by simp only [befN]; rw [if_neg (by simp)]; exact befN_irr f n (k + 1)
theorem befB_irr (f : Nat → Int) : befB f f = false := befN_irr f 8 0
theorem befN_tri (f g : Nat → Int) : ∀ n k, befN f g n k = true ∨ befN g f n k = true ∨ ∀ j, k ≤ j → j < k + n → f j = g j
  | 0, k => .inr (.inr fun j h1 h2 => by omega)
  | n + 1, k => by
    simp only [befN]
    by_cases e : f k = g k
    · rw [if_neg (by simpa using e), if_neg (by simpa using e.symm)]
      rcases befN_tri f g n (k + 1) with h | h | h
      · exact .inl h
      · exact .inr (.inl h)
      · refine .inr (.inr fun j h1 h2 => ?_)
        by_cases ej : j = k
        · subst ej; exact e
        · exact h j (by omega) (by omega)
    · rw [if_pos e, if_pos (fun h => e h.symm)]
      by_cases hl : f k < g k
      · exact .inl (by simpa using hl)
      · exact .inr (.inl (by simp; omega))
theorem befB_tri (f g : Nat → Int) : befB f g = true ∨ befB g f = true ∨ ∀ j, j < 8 → f j = g j := by
  rcases befN_tri f g 8 0 with h | h | h
  · exact .inl h
  · exact .inr (.inl h)
  · exact .inr (.inr fun j hj => h j (by omega) (by omega))
theorem befN_trans (f g h : Nat → Int) : ∀ n k, befN f g n k = true → befN g h n k = true → befN f h n k = true
  | 0, _, h1, _ => by simp [befN] at h1
  | n + 1, k, h1, h2 => by
    simp only [befN] at h1 h2 ⊢
    by_cases e1 : f k = g k
    · rw [if_neg (by simpa using e1)] at h1
      by_cases e2 : g k = h k
      · rw [if_neg (by simpa using e2)] at h2
        rw [if_neg (by simpa using e1.trans e2)]
        exact befN_trans f g h n (k + 1) h1 h2
      · rw [if_pos e2] at h2
        rw [if_pos (by rw [e1]; exact e2), e1]; exact h2
    · rw [if_pos e1] at h1
      have l1 : f k < g k := by simpa using h1
      by_cases e2 : g k = h k
      · rw [if_pos (by omega)]
        simp; omega
      · rw [if_pos e2] at h2
        have l2 : g k < h k := by simpa using h2
        rw [if_pos (by omega)]
        simp; omega
theorem befB_trans {f g h : Nat → Int} (h1 : befB f g = true) (h2 : befB g h = true) : befB f h = true := befN_trans f g h 8 0 h1 h2
theorem befB_asymm {f g : Nat → Int} (h : befB f g = true) : befB g f = false := by
  cases e : befB g f with
  | false => rfl
  | true => have := befB_trans h e; rw [befB_irr] at this; cases this
theorem befN_congr {f f' g g' : Nat → Int} : ∀ n k, (∀ j, k ≤ j → j < k + n → f j = f' j ∧ g j = g' j) → befN f g n k = befN f' g' n k
  | 0, _, _ => rfl
  | n + 1, k, h => by
    simp only [befN]
    rw [(h k (by omega) (by omega)).1, (h k (by omega) (by omega)).2, befN_congr n (k + 1) (fun j h1 h2 => h j (by omega) (by omega))]
theorem befB_congr {f f' g g' : Nat → Int} (h : ∀ j, j < 8 → f j = f' j ∧ g j = g' j) : befB f g = befB f' g' := befN_congr 8 0 (fun j _ h2 => h j (by omega))
/-- A spot's time. -/
def spT (T : List (List (List Int × Int))) (sp : Nat × List Int) : Nat → Int := timeV (T[sp.1]?.getD []) sp.2
/-- No two that are in each other's way change places. -/
def LegalN (ss : List Stm) (zs : Mem) (T : List (List (List Int × Int))) (S : List (Nat × List Int)) : Prop := ∀ i j : Nat, i < j → j < S.length → befB (spT T (S[j]?.getD (0, []))) (spT T (S[i]?.getD (0, []))) = true → ¬ clash zs (ss[(S[i]?.getD (0, [])).1]?.getD stmD) (ss[(S[j]?.getD (0, [])).1]?.getD stmD) (S[i]?.getD (0, [])).2 (S[j]?.getD (0, [])).2
/-- No two of one time are in each other's way. -/
def FreeN (ss : List Stm) (zs : Mem) (T : List (List (List Int × Int))) (S : List (Nat × List Int)) : Prop := ∀ i j : Nat, i < j → j < S.length → (∀ k, k < 8 → spT T (S[j]?.getD (0, [])) k = spT T (S[i]?.getD (0, [])) k) → ¬ clash zs (ss[(S[i]?.getD (0, [])).1]?.getD stmD) (ss[(S[j]?.getD (0, [])).1]?.getD stmD) (S[i]?.getD (0, [])).2 (S[j]?.getD (0, [])).2
theorem sublist_two {α : Type} {S : List α} {a b d : α} (h : [b, a].Sublist S) : ∃ i j : Nat, i < j ∧ j < S.length ∧ S[i]?.getD d = b ∧ S[j]?.getD d = a := by
  induction S with
  | nil => simp at h
  | cons c S ih =>
    cases h with
    | cons _ h =>
      obtain ⟨i, j, h1, h2, h3, h4⟩ := ih h
      exact ⟨i + 1, j + 1, by omega, by simp; omega, by simpa using h3, by simpa using h4⟩
    | cons_cons _ h =>
      have ha : a ∈ S := List.singleton_sublist.1 h
      obtain ⟨j, hj, e⟩ := List.getElem_of_mem ha
      exact ⟨0, j + 1, by omega, by simp; omega, rfl, by simp [hj, e]⟩
end Go.Proofs.Ytmmigbkilbfheaa.V
