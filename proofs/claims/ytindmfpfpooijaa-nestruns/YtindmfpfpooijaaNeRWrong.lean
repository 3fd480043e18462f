/-
  Contracts: the document's Takes, access. Contract: the document's Wrong of a nest.
-/
import Derived.Test.YtindmfpfpooijaaNeAt
import Derived.Test.YtindmfpfpooijaaPtRef
import Derived.BigQuiet
namespace Go.Proofs.Ytindmfpfpooijaa.V
open Go.RowKit
set_option linter.unusedVariables false

set_option maxHeartbeats 1000000 in
theorem rTakes_any (k : Int) (w : World) : Calls Try.prog 21 #[.int .i64 k] w fun e w' => e = .returned (.int .i64 (takesV k)) ∧ w' = w := by
  rcases kind_cases k with h | h | h | h | h | h | h | h | h | h | h
  case inr.inr.inr.inr.inr.inr.inr.inr.inr.inr =>
    rw [takes_none h]
    obtain ⟨h1, h2, h3, h4, h5, h6, h7, h8, h9, h10⟩ := h
    have k1 : (k == 1) = false := by simpa using h1
    have k2 : (k == 2) = false := by simpa using h2
    have k3 : (k == 3) = false := by simpa using h3
    have k4 : (k == 4) = false := by simpa using h4
    have k5 : (k == 5) = false := by simpa using h5
    have k6 : (k == 6) = false := by simpa using h6
    have k7 : (k == 7) = false := by simpa using h7
    have k8 : (k == 8) = false := by simpa using h8
    have k9 : (k == 9) = false := by simpa using h9
    have k10 : (k == 10) = false := by simpa using h10
    go_enter Try.func21, Try.ntmps21
    go_wp2
    go_ret
    exact ⟨rfl, rfl⟩
  all_goals
    subst h
    go_enter Try.func21, Try.ntmps21
    go_wp2
    go_ret
    exact ⟨rfl, rfl⟩

set_option maxHeartbeats 1000000 in
theorem rAccess_any (za : Option Addr) (zl zc : Nat) (vt : Value) (q : AW) (a : Acc) (vars : Nat) (w : World) (h : AG w q a) (hn : zl ≤ 9223372036854775807) (h4 : vars ≤ 4) :
    Calls Try.prog 22 #[.agg #[.slice za zl zc, vt], q.v, .int .i64 vars] w fun e w' => e = .returned (.int .i64 (accE zl a vars)) ∧ Below w.heap.size w w' := by
  have B0 : Below w.heap.size w (w.alloc (.cells #[.slice za zl zc, vt] 25)) := bl_new _
  have N0 : (w.alloc (.cells #[.slice za zl zc, vt] 25)).heap[w.heap.size]? = _ := World.alloc_heap_new w _
  obtain ⟨W, hW⟩ : ∃ W, W = w.alloc (.cells #[.slice za zl zc, vt] 25) := ⟨_, rfl⟩
  have hs : W.heap.size = w.heap.size + 1 := by rw [hW]; simp
  rw [← hW] at B0 N0
  have B1 : Below W.heap.size W (W.alloc (.cells #[.int .i64 q.arr, .slice q.ca q.cl q.cc, .int .i64 q.con] 43)) := bl_new _
  have P1 := AW.new q W
  have n0 : (W.alloc (.cells #[.int .i64 q.arr, .slice q.ca q.cl q.cc, .int .i64 q.con] 43)).cell? ⟨w.heap.size, 0, none⟩ = some (.slice za zl zc) := by
    rw [B1.cell (p := ⟨w.heap.size, 0, none⟩) (by simp only; omega)]
    simp [World.cell?, N0]
  obtain ⟨p0, p1, p2⟩ := P1.cells
  have h1 := (h.below B0).below B1
  have HC := hide (rRow_any q.ca q.cl q.cc a.2.1 a.2.2 vars _ ⟨h1.coef, h.cap⟩ h.bd.2 h4)
  have ha := h.arr
  have hk := h.con
  have hb1 := h.bd.1.1
  have hb2 := h.bd.1.2
  have HB := hide (bl_on B0 B1)
  have HW := hide hW
  rw [hs] at p0 p1 p2
  obtain ⟨arr, ca, cl, cc, con⟩ := q
  obtain ⟨aa, cs, ak⟩ := a
  simp only [AW.v] at *
  subst ha
  subst hk
  clear h h1 B1 P1 B0 N0 hs hW
  by_cases c1 : arr < 0
  · have e1 : accE zl (arr, cs, con) vars = 4 := by unfold accE; rw [if_pos (.inl c1)]
    rw [e1]
    clear e1
    rw [HW.out] at p0 p1 p2 n0 HB
    go_enter Try.func22, Try.ntmps22
    go_wp2_with fail
    go_ret
    exact ⟨rfl, HB.out⟩
  by_cases c2 : (zl : Int) ≤ arr
  · have e1 : accE zl (arr, cs, con) vars = 4 := by unfold accE; rw [if_pos (.inr c2)]
    rw [e1]
    clear e1
    rw [HW.out] at p0 p1 p2 n0 HB
    go_enter Try.func22, Try.ntmps22
    go_wp2_with fail
    go_ret
    exact ⟨rfl, HB.out⟩
  have e1 : accE zl (arr, cs, con) vars = rowE (cs, con) vars := by unfold accE; rw [if_neg (by simp only; omega)]
  rw [e1]
  clear e1
  rw [HW.out] at p0 p1 p2 n0 HB HC
  go_enter Try.func22, Try.ntmps22
  go_wp2_with (go_at_call 35; refine HC.out.mono ?_; rintro e w2 ⟨rfl, hb⟩; have HB2 := hide (bl_on HB.out hb); clear hb)
  go_ret
  exact ⟨rfl, HB2.out⟩
end Go.Proofs.Ytindmfpfpooijaa.V
namespace Go.Proofs.Ytindmfpfpooijaa.V
open Go.RowKit
set_option linter.unusedVariables false

set_option maxRecDepth 100000 in
set_option maxHeartbeats 8000000 in
theorem rNestWrong_any (za : Option Addr) (zl zc : Nat) (zs : List Int) (ta : Option Addr) (tl tc : Nat) (ss : List Stm) (w : World) (hz : Ints w za zl zs) (hs : Stms w ta tl ss) :
    Calls Try.prog 8 #[.agg #[.slice za zl zc, .slice ta tl tc]] w fun e w' => e = .returned (.int .i64 (nestE zs ss)) ∧ Below w.heap.size w w' := by
  have B1 : Below w.heap.size w (w.alloc (.cells #[.slice za zl zc, .slice ta tl tc] 25)) := bl_new _
  have P0 := NsBlk.new w za zl zc ta tl tc
  obtain ⟨p0, p1⟩ := P0.cells
  have HZI := hide (hz.below B1)
  have HS := hide hs
  have HB := hide B1
  have HP := hide P0
  have hm1 := hz.2.1
  have hm2 := hs.2.1
  have HZL := hide hz.1
  have HSL := hide hs.1
  by_cases c1 : 256 < tl
  · have e1 : nestE zs ss = 2 := by unfold nestE; rw [if_pos (by rw [hs.1]; exact c1)]
    rw [e1]
    clear hz hs e1 B1 P0
    go_enter Try.func8, Try.ntmps8
    go_wp2_with fail
    go_ret
    exact ⟨rfl, HB.out⟩
  have e1 : nestE zs ss = if zs.any badSize = true then 4 else stmsE zl ss := by unfold nestE; rw [if_neg (by rw [hs.1]; exact c1), hz.1]
  have E0 := hide e1
  clear hz hs e1 B1 P0
  go_enter Try.func8, Try.ntmps8
  go_wp2_with fail
  go_loop [19] (fun i => ∃ k : Nat, k ≤ zl ∧ i = .int .i64 k ∧ (zs.take k).any badSize = false) (fun i => zl - (intOf i).toNat)
  case atStart => exact ⟨0, Nat.zero_le _, rfl, by simp⟩
  case round =>
    obtain ⟨k, hk, rfl, hn⟩ := hrel
    have HN := hide hn
    clear hn
    by_cases hlt : k < zl
    · obtain ⟨b, off, rfl, hb, hc⟩ := HZI.out.at (by omega)
      have hck := hc k hlt
      clear hc
      have hkl : k < zs.length := by rw [HZL.out]; exact hlt
      have HKL := hide hkl
      clear hkl
      obtain ⟨x, hx⟩ : ∃ x, x = zs[k]?.getD 0 := ⟨_, rfl⟩
      rw [← hx] at hck
      by_cases h1 : x < 0
      · have HX : Hid (badSize (zs[k]?.getD 0) = true) := by rw [Hid, ← hx]; simp [badSize, h1]
        clear hx
        go_wp2_with fail
        go_ret
        exact ⟨by rw [E0.out, if_pos (any_of_getD zs k HKL.out HX.out)]; rfl, HB.out⟩
      · by_cases h2 : 65536 < x
        · have HX : Hid (badSize (zs[k]?.getD 0) = true) := by rw [Hid, ← hx]; simp [badSize, h2]
          clear hx
          go_wp2_with fail
          go_ret
          exact ⟨by rw [E0.out, if_pos (any_of_getD zs k HKL.out HX.out)]; rfl, HB.out⟩
        · have HX : Hid (badSize (zs[k]?.getD 0) = false) := by rw [Hid, ← hx]; simp [badSize]; omega
          clear hx
          go_wp2_with fail
          go_round
          case rel => exact ⟨k + 1, by omega, by go_num, not_mem_take_succ zs k HKL.out HN.out HX.out⟩
          case measure => simp [intOf]; omega
    · have c2 := HN.out
      rw [take_all HZL.out hlt] at c2
      have E2 : Hid (nestE zs ss = stmsE zl ss) := by rw [Hid, E0.out, if_neg (by simp [c2])]
      clear HN HZI c2
      go_wp2_with fail
      clear hlt hk
      go_loopw [33] (fun i wr => ∃ k : Nat, k ≤ tl ∧ i = .int .i64 k ∧ stmsE zl (ss.take k) = 0 ∧ Below w.heap.size w wr ∧ NsBlk wr w.heap.size za zl zc ta tl tc) (fun i _ => tl - (intOf i).toNat)
      case atStart => exact ⟨0, Nat.zero_le _, rfl, by simp [stmsE], HB.out, HP.out⟩
      case round =>
        obtain ⟨k, hk, rfl, hz, hB, hP⟩ := hrel
        have HZ := hide hz
        have HBr := hide hB
        have HP3 := hide hP
        obtain ⟨p0, p1⟩ := hP.cells
        have zP3 := hP.lt
        clear hz hB hP
        by_cases hlt : k < tl
        · have hkl : k < ss.length := by rw [HSL.out]; exact hlt
          obtain ⟨b, off, rfl, hat⟩ := (HS.out.below HBr.out).at (by omega)
          obtain ⟨q, hq, k0, k1, k2, k3, k4, k5, k6, k7⟩ := hat k hlt
          have z1 := lt_of_cell k0
          simp only at z1
          have B3 : Below wr.heap.size wr (wr.alloc (.cells q.cs 46)) := bl_new _
          obtain ⟨y0, y1, y2, y3, y4, y5, y6, y7⟩ := (SW.new q wr).cells
          have HP4 := hide (SW.new q wr)
          obtain ⟨r0, r1⟩ := (HP3.out.below B3).cells
          have HN4 := hide (HP3.out.below B3)
          have HB3 := hide B3
          have HKL := hide hkl
          obtain ⟨s, hs⟩ : ∃ s, s = ss[k]?.getD stmD := ⟨_, rfl⟩
          rw [← hs] at hq
          have HQ := hide hs
          have h1 := hq.below B3
          have HPW := hide (rptWrong_any q.ba q.bl q.bc s.box q.ra q.rl q.rc s.rows _ h1.box.1 h1.rows)
          have HAC := hide (fun (h4 : q.bl ≤ 4) (W : World) (hb : Below wr.heap.size wr W) => rAccess_any za zl zc (.slice (some ⟨b, off, none⟩) tl tc) q.pu s.put q.bl W (hq.put.below hb) hm1 h4)
          have HGE := hide hq.gets
          have hbl := hq.box.1.1
          have hgl := hq.gets.1
          have hgm := hq.gets.2.1
          have hkd := hq.kd
          have hbm := hq.box.1.2.1
          have hb1 := hq.bd.1.1
          have hb2 := hq.bd.1.2
          obtain ⟨ba, bl, bc, ra, rl, rc, kd, va, ⟨parr, pca, pcl, pcc, pcon⟩, ga, gl, gc⟩ := q
          obtain ⟨box, rows, kind, val, put, gets⟩ := s
          simp only [SW.cs, AW.v] at *
          subst hkd
          clear hat hq B3 hkl hs h1
          by_cases c1 : ptE box rows ≠ 0
          · have E1 : Hid (stmE zl ⟨box, rows, kd, val, put, gets⟩ = ptE box rows) := by unfold Hid stmE; simp only; rw [if_pos c1]
            have C1 := hide c1
            have c2 : (ptE box rows != 0) = true := by simpa using c1
            clear c1
            go_wp2_with (go_at_call 20; refine HPW.out.mono ?_; rintro e w1 ⟨rfl, hb⟩; have HB1 := hide (bl_on HB3.out hb); have P1 := HP4.out.below hb; obtain ⟨p0, p1, p2, p3, p4, p5, p6, p7⟩ := P1.cells; have zP := P1.lt; have HP1 := hide P1; have N1 := HN4.out.below hb; obtain ⟨n0, n1⟩ := N1.cells; have zN := N1.lt; have HN1 := hide N1; simp only at p0 p1 p2 p3 p4 p5 p6 p7; clear hb P1 N1)
            go_ret
            refine ⟨?_, bl_on HBr.out HB1.out⟩
            rw [E2.out, stmsE_here zl ss k HKL.out HZ.out (by rw [← HQ.out, E1.out]; exact C1.out), ← HQ.out, E1.out]; rfl
          have c1' : ptE box rows = 0 := by simpa using c1
          have C1 := hide c1'
          have h4 : bl ≤ 4 := by have := (ptE_ok c1').rank; omega
          have HAC := hide (fun W hb => HAC.out h4 W hb)
          have tb := takes_bd kd
          obtain ⟨T, hT⟩ : ∃ T, T = takesV kd := ⟨_, rfl⟩
          have HT := hide hT
          by_cases c2 : takesV kd < 0
          · have E1 : Hid (stmE zl ⟨box, rows, kd, val, put, gets⟩ = 1) := by unfold Hid stmE; simp only; rw [if_neg c1, if_pos c2]
            have c3 : T < 0 := by omega
            clear c1 c1' c2 hT
            go_wp2_with (first | (go_at_call 20; refine HPW.out.mono ?_; rintro e w1 ⟨rfl, hb⟩; rw [C1.out]; have HB1 := hide (bl_on HB3.out hb); have P1 := HP4.out.below hb; obtain ⟨p0, p1, p2, p3, p4, p5, p6, p7⟩ := P1.cells; have zP := P1.lt; have HP1 := hide P1; have N1 := HN4.out.below hb; obtain ⟨n0, n1⟩ := N1.cells; have zN := N1.lt; have HN1 := hide N1; simp only at p0 p1 p2 p3 p4 p5 p6 p7; clear hb P1 N1) | (go_at_call 21; refine (rTakes_any _ _).mono ?_; rintro e w' ⟨rfl, hw'⟩; obtain rfl := hw'.symm; rw [← HT.out]))
            go_ret
            refine ⟨?_, bl_on HBr.out HB1.out⟩
            rw [E2.out, stmsE_here zl ss k HKL.out HZ.out (by rw [← HQ.out, E1.out]; decide), ← HQ.out, E1.out]; rfl
          have c3 : ¬ T < 0 := by omega
          by_cases c4 : takesV kd ≠ (gets.length : Int)
          · have E1 : Hid (stmE zl ⟨box, rows, kd, val, put, gets⟩ = 2) := by unfold Hid stmE; simp only; rw [if_neg c1, if_neg c2, if_pos c4]
            have c5 : (T != (gl : Int)) = true := by simp; omega
            clear c1 c1' c2 c4 hT tb
            go_wp2_with (first | (go_at_call 20; refine HPW.out.mono ?_; rintro e w1 ⟨rfl, hb⟩; rw [C1.out]; have HB1 := hide (bl_on HB3.out hb); have P1 := HP4.out.below hb; obtain ⟨p0, p1, p2, p3, p4, p5, p6, p7⟩ := P1.cells; have zP := P1.lt; have HP1 := hide P1; have N1 := HN4.out.below hb; obtain ⟨n0, n1⟩ := N1.cells; have zN := N1.lt; have HN1 := hide N1; simp only at p0 p1 p2 p3 p4 p5 p6 p7; clear hb P1 N1) | (go_at_call 21; refine (rTakes_any _ _).mono ?_; rintro e w' ⟨rfl, hw'⟩; obtain rfl := hw'.symm; rw [← HT.out]))
            go_quiet ((go_at_call 21; refine (rTakes_any _ _).mono ?_; rintro e w' ⟨rfl, rfl⟩; rw [← HT.out]; exact ⟨rfl, _, rfl⟩))
            go_wp2_with fail
            go_ret
            refine ⟨?_, bl_on HBr.out (bl_on HB1.out (below_drewN _ _))⟩
            rw [E2.out, stmsE_here zl ss k HKL.out HZ.out (by rw [← HQ.out, E1.out]; decide), ← HQ.out, E1.out]; rfl
          have c4' : takesV kd = (gets.length : Int) := by simpa using c4
          have c5 : (T != (gl : Int)) = false := by simp; omega
          have hg3 : gl ≤ 3 := by omega
          by_cases c6 : accE zl put box.length ≠ 0
          · have E1 : Hid (stmE zl ⟨box, rows, kd, val, put, gets⟩ = accE zl put bl) := by unfold Hid stmE; simp only; rw [if_neg c1, if_neg c2, if_neg c4, if_pos c6, hbl]
            have C6 : Hid (accE zl put bl ≠ 0) := by rw [Hid, ← hbl]; exact c6
            have c7 : (accE zl put bl != 0) = true := by rw [← hbl]; simpa using c6
            clear c1 c1' c2 c4 hT tb c6 c4'
            go_wp2_with (first | (go_at_call 20; refine HPW.out.mono ?_; rintro e w1 ⟨rfl, hb⟩; rw [C1.out]; have HB1 := hide (bl_on HB3.out hb); have P1 := HP4.out.below hb; obtain ⟨p0, p1, p2, p3, p4, p5, p6, p7⟩ := P1.cells; have zP := P1.lt; have HP1 := hide P1; have N1 := HN4.out.below hb; obtain ⟨n0, n1⟩ := N1.cells; have zN := N1.lt; have HN1 := hide N1; simp only at p0 p1 p2 p3 p4 p5 p6 p7; clear hb P1 N1) | (go_at_call 21; refine (rTakes_any _ _).mono ?_; rintro e w' ⟨rfl, hw'⟩; obtain rfl := hw'.symm; rw [← HT.out]))
            go_quiet ((go_at_call 21; refine (rTakes_any _ _).mono ?_; rintro e w' ⟨rfl, rfl⟩; rw [← HT.out]; exact ⟨rfl, _, rfl⟩))
            go_wp2_with (go_at_call 22; refine (HAC.out (w1.drewN nq) (bl_on HB1.out (below_drewN _ _))).mono ?_; rintro e w2 ⟨rfl, hb⟩; have HB2 := hide (bl_on (bl_on HB1.out (below_drewN _ nq)) hb); have P2 := (HP1.out.below (below_drewN _ nq)).below hb; obtain ⟨p0, p1, p2, p3, p4, p5, p6, p7⟩ := P2.cells; have zP := P2.lt; have HP2 := hide P2; have N2 := (HN1.out.below (below_drewN _ nq)).below hb; obtain ⟨n0, n1⟩ := N2.cells; have zN := N2.lt; have HN2 := hide N2; simp only at p0 p1 p2 p3 p4 p5 p6 p7; clear hb P2 N2)
            go_ret
            refine ⟨?_, bl_on HBr.out HB2.out⟩
            rw [E2.out, stmsE_here zl ss k HKL.out HZ.out (by rw [← HQ.out, E1.out]; exact C6.out), ← HQ.out, E1.out]; rfl
          have E1 : Hid (stmE zl ⟨box, rows, kd, val, put, gets⟩ = accsE zl gets bl) := by unfold Hid stmE; simp only; rw [if_neg c1, if_neg c2, if_neg c4, if_neg c6, hbl]
          have c7 : accE zl put bl = 0 := by rw [← hbl]; simpa using c6
          have C7 := hide c7
          have HGL := hide hgl
          clear c1 c1' c2 c4 hT tb c6 c4' c7
          go_wp2_with (first | (go_at_call 20; refine HPW.out.mono ?_; rintro e w1 ⟨rfl, hb⟩; rw [C1.out]; have HB1 := hide (bl_on HB3.out hb); have P1 := HP4.out.below hb; obtain ⟨p0, p1, p2, p3, p4, p5, p6, p7⟩ := P1.cells; have zP := P1.lt; have HP1 := hide P1; have N1 := HN4.out.below hb; obtain ⟨n0, n1⟩ := N1.cells; have zN := N1.lt; have HN1 := hide N1; simp only at p0 p1 p2 p3 p4 p5 p6 p7; clear hb P1 N1) | (go_at_call 21; refine (rTakes_any _ _).mono ?_; rintro e w' ⟨rfl, hw'⟩; obtain rfl := hw'.symm; rw [← HT.out]))
          go_quiet ((go_at_call 21; refine (rTakes_any _ _).mono ?_; rintro e w' ⟨rfl, rfl⟩; rw [← HT.out]; exact ⟨rfl, _, rfl⟩))
          go_wp2_with (go_at_call 22; refine (HAC.out (w1.drewN nq) (bl_on HB1.out (below_drewN _ _))).mono ?_; rintro e w2 ⟨rfl, hb⟩; rw [C7.out]; have HB2 := hide (bl_on (bl_on HB1.out (below_drewN _ nq)) hb); have P2 := (HP1.out.below (below_drewN _ nq)).below hb; obtain ⟨p0, p1, p2, p3, p4, p5, p6, p7⟩ := P2.cells; have zP := P2.lt; have HP2 := hide P2; have N2 := (HN1.out.below (below_drewN _ nq)).below hb; obtain ⟨n0, n1⟩ := N2.cells; have zN := N2.lt; have HN2 := hide N2; simp only at p0 p1 p2 p3 p4 p5 p6 p7; clear hb P2 N2)
          clear HPW HAC p0 p1 p2 p3 p4 p5 p6 p7 n0 n1 y0 y1 y2 y3 y4 y5 y6 y7 r0 r1 k0 k1 k2 k3 k4 k5 k6 k7
          go_loopw [68] (fun i wr2 => ∃ j : Nat, j ≤ gl ∧ i = .int .i64 j ∧ accsE zl (gets.take j) bl = 0 ∧ Below w2.heap.size w2 wr2) (fun i _ => gl - (intOf i).toNat)
          case atStart => exact ⟨0, Nat.zero_le _, rfl, by simp [accsE], Below.refl _ _⟩
          case round =>
            rename_i wr2
            obtain ⟨j, hj, rfl, hz, hB⟩ := hrel
            have HZ2 := hide hz
            have HBr2 := hide hB
            have P3 := HP2.out.below hB
            obtain ⟨p0, p1, p2, p3, p4, p5, p6, p7⟩ := P3.cells
            have zP3 := P3.lt
            have HP3 := hide P3
            have N3 := HN2.out.below hB
            obtain ⟨n0, n1⟩ := N3.cells
            have zN3 := N3.lt
            have HN3 := hide N3
            clear hz hB P3 N3
            simp only at p0 p1 p2 p3 p4 p5 p6 p7
            by_cases hlt2 : j < gl
            · have hjl : j < gets.length := by rw [HGL.out]; exact hlt2
              obtain ⟨gb, go, rfl, hat⟩ := (HGE.out.below (bl_on HB2.out HBr2.out)).at (by omega)
              obtain ⟨q, hq, k1, k2, k3⟩ := (hat j hlt2).words
              have z1 := lt_of_cell k1
              simp only at z1
              have B3 := bl_new (w := wr) (.cells #[.int .i64 q.arr, .slice q.ca q.cl q.cc, .int .i64 q.con] 43)
              have HC := hide (rAccess_any za zl zc (.slice (some ⟨b, off, none⟩) tl tc) q _ bl _ (hq.below B3) hm1 h4)
              obtain ⟨y0, y1, y2⟩ := (AW.new q wr).cells
              obtain ⟨r0, r1, r2, r3, r4, r5, r6, r7⟩ := (HP3.out.below B3).cells
              obtain ⟨s0, s1⟩ := (HN3.out.below B3).cells
              have HB3 := hide B3
              have HJL := hide hjl
              obtain ⟨aq, haq⟩ : ∃ aq, aq = gets[j]?.getD accD := ⟨_, rfl⟩
              rw [← haq] at HC
              have HAQ := hide haq
              obtain ⟨arr, ca, cl, cc, con⟩ := q
              simp only [AW.v] at *
              clear hat hq B3 hjl haq
              go_wp2_with (go_at_call 22; refine HC.out.mono ?_; rintro e w3 ⟨rfl, hb⟩; have HB4 := hide (bl_on HB3.out hb); clear hb)
              · have hx : accE zl aq bl ≠ 0 := by simpa using (by assumption : (accE zl aq bl != 0) = true)
                go_ret
                refine ⟨?_, bl_on HBr.out (bl_on HB2.out (bl_on HBr2.out HB4.out))⟩
                have e := accsE_here zl gets bl j HJL.out HZ2.out (by rw [← HAQ.out]; exact hx)
                rw [E2.out, stmsE_here zl ss k HKL.out HZ.out (by rw [← HQ.out, E1.out, e, ← HAQ.out]; exact hx), ← HQ.out, E1.out, e, ← HAQ.out]; rfl
              · have hx : accE zl aq bl = 0 := by simpa using (by assumption : (accE zl aq bl != 0) = false)
                go_roundw
                case rel => exact ⟨j + 1, by omega, by go_num, accsE_take zl gets bl j HJL.out HZ2.out (by rw [← HAQ.out]; exact hx), bl_on HBr2.out HB4.out⟩
                case measure => simp [intOf]; omega
            · go_wp2_with fail
              have e := HZ2.out
              rw [List.take_of_length_le (by rw [HGL.out]; omega)] at e
              have HE := hide e
              clear e
              go_roundw
              case rel => exact ⟨k + 1, by omega, by go_num, stmsE_take zl ss k HKL.out HZ.out (by rw [← HQ.out, E1.out, HE.out]), bl_on HBr.out (bl_on HB2.out HBr2.out), HN3.out⟩
              case measure => simp [intOf]; omega
        · go_wp2_with fail
          go_ret
          have := HZ.out
          rw [List.take_of_length_le (by rw [HSL.out]; omega)] at this
          exact ⟨by rw [E2.out, this]; rfl, HBr.out⟩
end Go.Proofs.Ytindmfpfpooijaa.V
