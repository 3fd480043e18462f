/-
  PointsLoops: the walk.
-/
import Derived.Test.YtmefgejggpimeaaPtRun2
import Derived.Test.YtmefgejggpimeaaPtRunMath
import Derived.Test.YtmefgejggpimeaaPtAll
import Derived.Test.YtmefgejggpimeaaPtAllLaw
namespace Go.Proofs.Ytmefgejggpimeaa.V
open Go.RowKit
set_option linter.unusedVariables false

theorem rrun_any (L : Nat) (ba : Option Addr) (bl bc : Nat) (box : List Int) (rs : List (List Int × Int)) (ho : PtOk box rs) : ∀ (d k : Nat) (x : List Int) (w : World) (xa : Option Addr) (xc : Nat), k + d = bl → (∀ y ∈ x, 0 ≤ y ∧ y ≤ 4096) →
    LoopsAt w L bl (tabT rs (tab0 (endsOf box rs))) → Lst w ba bl bc box → Lst w xa k xc x → Flush xa →
    Calls Try.prog 24 #[.slice (some ⟨L, 0, none⟩) bl bl, .slice ba bl bc, .slice xa k xc] w fun e w' => (∃ v, e = .returned (.tuple #[v, .bool true]) ∧ OutL w' w.heap.size v (runL (loopsFrom rs k ((endsOf box rs).drop k)) x)) ∧ Below w.heap.size w w'
  | 0, k, x, w, xa, xc, hd, hxb, hL, hbox, hx, hf => by
    obtain rfl : k = bl := by omega
    have e : (endsOf box rs).drop k = [] := by
      rw [List.drop_eq_nil_iff, ends_len, hbox.1.1]
      exact Nat.le_refl _
    rw [e]
    exact rrun_done L k ba bc xa xc x w hx hf
  | d + 1, k, x, w, xa, xc, hd, hxb, hL, hbox, hx, hf => by
    have hxl : x.length = k := hx.1.1
    have hbl : box.length = bl := hbox.1.1
    have hkb : k < box.length := by omega
    have hn4 : bl ≤ 4 := by have := ho.rank; omega
    obtain ⟨q1, q2, q3⟩ := ends_bd ho k hkb
    have e : (endsOf box rs).drop k = (endsOf box rs)[k]?.getD 0 :: (endsOf box rs).drop (k + 1) := by
      have hk2 : k < (endsOf box rs).length := by rw [ends_len]; exact hkb
      rw [List.drop_eq_getElem_cons hk2]
      simp [hk2]
    have hlen := runL_len ho x k hxl (by omega)
    have e2 : runL (loopsFrom rs k ((endsOf box rs).drop k)) x = (fromTo ((loopOf rs k ((endsOf box rs)[k]?.getD 0)).lo x) ((loopOf rs k ((endsOf box rs)[k]?.getD 0)).hi x)).flatMap fun n => runL (loopsFrom rs (k + 1) ((endsOf box rs).drop (k + 1))) (x ++ [n]) := by
      rw [e]; rfl
    rw [e2] at hlen ⊢
    have hit := fun n => loop_iff rs x ((endsOf box rs)[k]?.getD 0) n
    rw [hxl] at hit
    refine rrun_step L bl k (tabT rs (tab0 (endsOf box rs))) ba bc box xa xc x w (loopOf rs k ((endsOf box rs)[k]?.getD 0)) _ hL (tab_lows _ rs k) (tab_highs _ rs k) (lows_fit ho k hkb) (highs_fit ho k hkb _ q1) (lows_len rs k ho.many).2 (highs_len rs k _ ho.many).2 hbox hx (by omega) hn4 hxb (fun hle => ?_) q3 hlen (fun m w1 xa' xc' m1 m2 hb hx' hf' => ?_)
    · have h1 := ((hit _).1 ⟨Int.le_refl _, hle⟩).1
      have h2 := ((hit _).1 ⟨hle, Int.le_refl _⟩).1
      omega
    · have h1 := ((hit m).1 ⟨m1, m2⟩).1
      exact rrun_any L ba bl bc box rs ho d (k + 1) (x ++ [m]) w1 xa' xc' (by omega) (fun y hy => by
        rcases List.mem_append.1 hy with hy | hy
        · exact hxb y hy
        · have : y = m := by simpa using hy
          omega) (hL.below hb) (hbox.below hb) hx' hf'

set_option maxHeartbeats 8000000 in
theorem pointsLoops_walk (ba : Option Addr) (bl bc : Nat) (box : List Int) (ra : Option Addr) (rl rc : Nat) (rs : List (List Int × Int)) (w : World) (h : Lst w ba bl bc box) (hr : Rws w ra rl rs) :
    Calls Try.prog 6 #[.agg #[.slice ba bl bc, .slice ra rl rc]] w fun e w' => e = .returned (.bool true) ∧ Below w.heap.size w w' := by
  have B1 : Below w.heap.size w (w.alloc (.cells #[.slice ba bl bc, .slice ra rl rc] 25)) := bl_new _
  have HB := hide B1
  have HP := hide (PtAt.new w ba bl bc ra rl rc)
  have H := hide h
  have HR := hide hr
  have C4 := hide (fun W (hb : Below w.heap.size w W) => rptWrong_any ba bl bc box ra rl rc rs W (H.out.1.below hb) (HR.out.below hb))
  by_cases hE : ptE box rs = 0
  · have HE := hide hE
    have ho := ptE_ok hE
    have HO := hide ho
    have h4 : bl ≤ 4 := by have := ho.rank; rw [h.1.1] at this; exact this
    have C1 := hide (ptLoops_ok ba bl bc box ra rl rc rs _ (h.1.below B1) (hr.below B1) hE)
    have C2 := hide (fun W (hb : Below w.heap.size w W) => rAll_ok ba bl bc box ra rl rc rs W (H.out.below hb) (HR.out.below hb) HO.out)
    have HLB := hide h.1.1
    obtain ⟨N, hN⟩ : ∃ N, N = (pts box rs).length := ⟨_, rfl⟩
    have hN4 : N ≤ 4096 := by rw [hN]; exact pts_len HO.out
    rw [← hN] at C2
    have HN := hide hN
    have cbl : ((bl : Int) != (bl : Int)) = false := by simp
    clear h hr B1 hE hN ho
    go_enter Try.func6, Try.ntmps6
    go_wp2_with fail
    refine C1.out.mono ?_
    rintro e w1 ⟨⟨L, B, g, rfl, hT, hBz⟩, hb⟩
    have HL := hide hT.loops
    have HB1 := hide (bl_on HB.out hb)
    have P1 := HP.out.below hb
    have HP1 := hide P1
    obtain ⟨p0, p1⟩ := P1.cells
    have zP := P1.lt
    clear hb P1 hT hBz
    go_wp2_with fail
    refine (C4.out w1 HB1.out).mono ?_
    rintro e w2 ⟨rfl, hb⟩
    rw [HE.out]
    have HL2 := hide (HL.out.below hb)
    have HB2 := hide (bl_on HB1.out hb)
    have P2 := HP1.out.below hb
    have HP2 := hide P2
    obtain ⟨p2, p3⟩ := P2.cells
    have zP2 := P2.lt
    clear hb P2 p0 p1 zP HL HB1 HP1
    go_wp2_with fail
    clear p2 p3 zP2
    go_loopw [31] (fun i wr => ∃ j : Nat, j ≤ bl ∧ i = .int .i64 j ∧ Below w2.heap.size w2 wr) (fun i _ => bl - (intOf i).toNat)
    case atStart => exact ⟨0, Nat.zero_le _, rfl, Below.refl _ _⟩
    case round =>
      obtain ⟨j, hj, rfl, hbr⟩ := hrel
      have HBr := hide hbr
      by_cases hlt : j < bl
      · obtain ⟨g1, c1, v1, e1, bd1⟩ := (HL2.out.below hbr) (j * 2) (by omega)
        obtain ⟨g2, c2, v2, e2, bd2⟩ := (HL2.out.below hbr) (j * 2 + 1) (by omega)
        have hjb : j < box.length := by rw [HLB.out]; exact hlt
        obtain ⟨q1, q2, q3⟩ := ends_bd HO.out j hjb
        rw [tab_lows] at e1 bd1
        rw [tab_highs] at e2 bd2
        have z1 := lt_of_cell e1
        simp only at z1
        have B2 : Below wr.heap.size wr (wr.alloc (.cells #[.slice (some ⟨g1, 0, none⟩) (lowsOf rs j).length c1, .slice (some ⟨g2, 0, none⟩) (highsOf rs j ((endsOf box rs)[j]?.getD 0)).length c2] 48)) := bl_new _
        have HC := hide (right_any g1 c1 g2 c2 j (lowsOf rs j) (highsOf rs j ((endsOf box rs)[j]?.getD 0)) v1 v2 _ (bd1.below B2) (bd2.below B2) (lows_len rs j HO.out.many) (highs_len rs j _ HO.out.many) (by omega) (lows_fit HO.out j hjb) (highs_fit HO.out j hjb _ q1))
        have HB3 := hide B2
        obtain ⟨n1, hn1⟩ : ∃ n, n = (lowsOf rs j).length := ⟨_, rfl⟩
        obtain ⟨n2, hn2⟩ : ∃ n, n = (highsOf rs j ((endsOf box rs)[j]?.getD 0)).length := ⟨_, rfl⟩
        rw [← hn1] at e1 HC HB3
        rw [← hn2] at e2 HC HB3
        clear bd1 bd2 B2 hbr hn1 hn2 q1 q2 q3 hjb
        go_wp2_with fail
        refine HC.out.mono ?_
        rintro e w3 ⟨rfl, hb3⟩
        have HB4 := hide (bl_on HBr.out (bl_on HB3.out hb3))
        clear hb3
        go_wp2_with fail
        go_roundw
        case rel => exact ⟨j + 1, by omega, by go_num, HB4.out⟩
        case measure => simp [intOf]; omega
      · have P3 := HP2.out.below hbr
        have HP3 := hide P3
        obtain ⟨p4, p5⟩ := P3.cells
        have zP3 := P3.lt
        have HB3 := hide (bl_on HB2.out hbr)
        have HC := hide (rrun_any L ba bl bc box rs HO.out bl 0 [] wr none 0 (by omega) (by simp) (HL2.out.below hbr) (H.out.below (bl_on HB2.out hbr)) ⟨⟨rfl, by omega, by simp, .inl rfl⟩, Nat.le_refl _, fun _ => rfl⟩ (fun b o e => by cases e))
        clear hbr P3
        go_wp2_with fail
        refine HC.out.mono ?_
        rintro e w3 ⟨⟨v3, rfl, hout⟩, hb3⟩
        have P4 := HP3.out.below hb3
        have HP4 := hide P4
        obtain ⟨p6, p7⟩ := P4.cells
        have zP4 := P4.lt
        have HB4 := hide (bl_on HB3.out hb3)
        have HOUT := hide hout
        clear hb3 P4 hout p4 p5 zP3
        by_cases h0 : bl = 0
        · have cb0 : ((bl : Int) == 0) = true := by simp; omega
          go_wp2_with fail
          go_ret
          exact ⟨rfl, HB4.out⟩
        · have cb0 : ((bl : Int) == 0) = false := by simp; omega
          have hout := HOUT.out
          rw [List.drop_zero, runL_pts HO.out (by rw [HLB.out]; omega)] at hout
          obtain ⟨A, c, e3, hll, _⟩ := hout.ll
          rw [← HN.out] at e3 hll
          subst e3
          have HLL := hide hll
          clear hout hll HOUT
          go_wp2_with fail
          refine (C2.out w3 HB4.out).mono ?_
          rintro e w4 ⟨⟨A', c', rfl, hl'⟩, hb⟩
          have HL3 := hide (HLL.out.below hb)
          have HL3' := hide hl'
          have HB5 := hide (bl_on HB4.out hb)
          clear hb hl' p6 p7 zP4
          go_wp2_with fail
          refine (lists_same A A' N c c' (pts box rs) w4 HL3.out HL3'.out hN4).mono ?_
          rintro e w5 ⟨rfl, nn, rfl⟩
          go_wp2_with fail
          go_ret
          exact ⟨rfl, HB5.out.trans (below_drewN _ _)⟩
  · have c2 : (ptE box rs != 0) = true := by simpa using hE
    have C1 := hide (ptLoops_bad ba bl bc box ra rl rc rs _ (h.1.below B1) (hr.below B1) hE)
    clear h hr B1 hE
    go_enter Try.func6, Try.ntmps6
    go_wp2_with fail
    refine C1.out.mono ?_
    rintro e w1 ⟨rfl, hb⟩
    have HB1 := hide (bl_on HB.out hb)
    have P1 := HP.out.below hb
    obtain ⟨p0, p1⟩ := P1.cells
    have zP := P1.lt
    clear hb P1
    go_wp2_with fail
    refine (C4.out w1 HB1.out).mono ?_
    rintro e w2 ⟨rfl, hb⟩
    have HB2 := hide (bl_on HB1.out hb)
    clear hb p0 p1 zP
    go_wp2_with fail
    go_ret
    exact ⟨rfl, HB2.out⟩
end Go.Proofs.Ytmefgejggpimeaa.V
