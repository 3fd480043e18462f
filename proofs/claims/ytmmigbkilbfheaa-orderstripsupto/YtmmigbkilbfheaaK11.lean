/-
  Contracts: the document's Row, Wrong, At. Contracts: the document's Takes, access. Contract: the document's Wrong of a nest. Contracts: list.Each of rows, of accesses, of statements, over whatever function.
-/
import Derived.Test.YtmmigbkilbfheaaK10
import Derived.BigRegion
import Derived.BigQuiet
namespace Go.Proofs.Ytmmigbkilbfheaa.V
open Go.RowKit
set_option linter.unusedVariables false

theorem any_far_cons (K : Int) (cs : List Int) : (K :: cs).any ptFar = (ptFar K || cs.any ptFar) := rfl
set_option maxHeartbeats 2000000 in
theorem rRow_any (a : Option Addr) (l c : Nat) (cs : List Int) (K : Int) (many : Nat) (w : World) (h : Lst w a l c cs) (hK : -9223372036854775808 ≤ K ∧ K ≤ 9223372036854775807) (h4 : many ≤ 4) :
    Calls Try.prog 33 #[.agg #[.slice a l c, .int .i64 K], .int .i64 many] w fun e w' => e = .returned (.int .i64 (rowE (cs, K) many)) ∧ Below w.heap.size w w' := by
  have hm := h.1.2.1
  by_cases c1 : l = many
  · subst c1
    have e1 : rowE (cs, K) l = if (K :: cs).any ptFar = true then 4 else 0 := by unfold rowE; rw [if_neg (by simp [h.1.1])]; rfl
    have E1 := hide e1
    clear e1
    have B1 : Below w.heap.size w ((w.alloc (.cells #[.slice a l c, .int .i64 K] 51)).alloc (.cells #[.int .i64 K] 3)) := bl_on (bl_new _) (bl_new _)
    have O1 := own_one (w.alloc (.cells #[.slice a l c, .int .i64 K] 51)) w.heap.size 3 (.int .i64 K) (by simp)
    rw [World.size_alloc] at O1
    have HB := hide B1
    have HO := hide O1
    have H := hide (h.below B1)
    have HLC := hide h.1.1
    have HKB := hide (show ∀ x ∈ K :: cs, -9223372036854775808 ≤ x ∧ x ≤ 9223372036854775807 from fun x hx => by
      rcases List.mem_cons.1 hx with rfl | hx
      · exact hK
      · exact h.1.2.2.1 x hx)
    clear h B1 O1
    go_enter Try.func33, Try.ntmps33
    go_wp2_with (at_builtin; refine append_list rfl _ _ rfl w.heap.size _ 1 [.int .i64 K] rfl HO.out a l c cs rfl H.out (by omega) (by simp; omega) ?_; intro v' w2 hown hgrow; obtain ⟨X, c2, rfl, hL2, _⟩ := lst_of_own (xs := K :: cs) hown (by simp [HLC.out]; omega) (by omega) HKB.out; have HL2 := hide hL2; have HB2 := hide (HB.out.grown hgrow (by simp; omega) (fun j e => (HO.out.lt j e).1)); clear hown hgrow hL2)
    go_loop [19] (fun i => ∃ k : Nat, k ≤ 1 + l ∧ i = .int .i64 k ∧ ((K :: cs).take k).any ptFar = false) (fun i => 1 + l - (intOf i).toNat)
    case atStart => exact ⟨0, Nat.zero_le _, rfl, by simp⟩
    case round =>
      obtain ⟨k, hk, rfl, hn⟩ := hrel
      have HN := hide hn
      clear hn
      by_cases hlt : k < 1 + l
      · obtain ⟨b, off, rfl, hb, hc⟩ := HL2.out.1.at (by omega)
        have hck := hc k hlt
        have HKL : Hid (k < (K :: cs).length) := by rw [Hid, HL2.out.1.1]; exact hlt
        obtain ⟨q, hq⟩ : ∃ q, q = (K :: cs)[k]?.getD 0 := ⟨_, rfl⟩
        rw [← hq] at hck
        have HQ := hide hq
        clear hc hq
        by_cases h1 : 1048576 < q
        · go_wp2
          go_ret
          rw [E1.out, any_of_getD (K :: cs) k HKL.out (by rw [← HQ.out]; simp [ptFar, h1])]
          exact ⟨rfl, HB2.out⟩
        · by_cases h2 : q < -1048576
          · go_wp2
            go_ret
            rw [E1.out, any_of_getD (K :: cs) k HKL.out (by rw [← HQ.out]; simp [ptFar, h2])]
            exact ⟨rfl, HB2.out⟩
          · go_wp2
            go_round
            case rel => exact ⟨k + 1, by omega, by go_num, not_mem_take_succ (K :: cs) k HKL.out HN.out (by rw [← HQ.out]; simp [ptFar]; omega)⟩
            case measure => simp [intOf]; omega
      · go_wp2
        go_ret
        have := HN.out
        rw [take_all HL2.out.1.1 hlt] at this
        rw [E1.out, this]
        exact ⟨rfl, HB2.out⟩
  · have e1 : rowE (cs, K) many = 6 := by unfold rowE; rw [if_pos (by rw [h.1.1]; exact c1)]
    rw [e1]
    have c2 : ((l : Int) != (many : Int)) = true := by simp; omega
    have HB := hide (bl_new (w := w) (.cells #[.slice a l c, .int .i64 K] 51))
    clear e1 h c1
    go_enter Try.func33, Try.ntmps33
    go_wp2
    go_ret
    exact ⟨rfl, HB.out⟩

set_option maxHeartbeats 4000000 in
theorem rptWrong_any (ba : Option Addr) (bl bc : Nat) (box : List Int) (ra : Option Addr) (rl rc : Nat) (rs : List (List Int × Int)) (w : World) (h : Ints w ba bl box) (hr : Rws w ra rl rs) :
    Calls Try.prog 55 #[.agg #[.slice ba bl bc, .slice ra rl rc]] w fun e w' => e = .returned (.int .i64 (ptE box rs)) ∧ Below w.heap.size w w' := by
  have hm := h.2.1
  have hm2 := hr.2.1
  have B1 : Below w.heap.size w (w.alloc (.cells #[.slice ba bl bc, .slice ra rl rc] 69)) := bl_new _
  have H := hide (h.below B1)
  have HR := hide hr
  have HB := hide B1
  have HL1 := hide h.1
  have HL2 := hide hr.1
  have HP0 := hide (PtAt.new w ba bl bc ra rl rc)
  by_cases c0 : 4 < bl
  · have e1 : ptE box rs = 3 := by
      have : boxE box = 3 := by unfold boxE; rw [if_pos (by rw [h.1]; exact c0)]
      unfold ptE; rw [if_pos (by rw [this]; decide), this]
    rw [e1]
    clear h hr e1 B1
    go_enter Try.func55, Try.ntmps55
    go_wp2
    go_ret
    exact ⟨rfl, HB.out⟩
  have hbl : bl ≤ 4 := by omega
  have eb : boxE box = if box.any badDim = true then 4 else if 4096 < prod box then 5 else 0 := by unfold boxE; rw [if_neg (by rw [h.1]; exact c0)]
  have EB := hide eb
  clear h hr B1 eb c0
  go_enter Try.func55, Try.ntmps55
  go_wp2
  go_loop [3, 16] (fun s i => ∃ k : Nat, k ≤ bl ∧ i = .int .i64 k ∧ s = .int .i64 (prod (box.take k)) ∧ (box.take k).any badDim = false) (fun _ i => bl - (intOf i).toNat)
  case atStart => exact ⟨0, Nat.zero_le _, rfl, by simp [prod], by simp⟩
  case round =>
    obtain ⟨k, hk, rfl, rfl, hn⟩ := hrel
    have HN := hide hn
    clear hn
    by_cases hlt : k < bl
    · obtain ⟨b, off, rfl, hb, hc⟩ := H.out.at (by omega)
      have hck := hc k hlt
      have hkl : k < box.length := by rw [HL1.out]; exact hlt
      have HKL := hide hkl
      obtain ⟨q, hq⟩ : ∃ q, q = box[k]?.getD 0 := ⟨_, rfl⟩
      rw [← hq] at hck
      have HQ := hide hq
      clear hc hq hkl
      by_cases h1 : q < 0
      · have e1 : ptE box rs = 4 := by
          have : boxE box = 4 := by rw [EB.out, if_pos (any_of_getD box k HKL.out (by rw [← HQ.out]; simp [badDim, h1]))]
          unfold ptE; rw [if_pos (by rw [this]; decide), this]
        have E1 := hide e1
        clear e1
        go_wp2
        go_ret
        rw [E1.out]
        exact ⟨rfl, HB.out⟩
      · by_cases h2 : 4096 < q
        · have e1 : ptE box rs = 4 := by
            have : boxE box = 4 := by rw [EB.out, if_pos (any_of_getD box k HKL.out (by rw [← HQ.out]; simp [badDim, h2]))]
            unfold ptE; rw [if_pos (by rw [this]; decide), this]
          have E1 := hide e1
          clear e1
          go_wp2
          go_ret
          rw [E1.out]
          exact ⟨rfl, HB.out⟩
        · have HP := hide (prod_take_succ box k HKL.out)
          have hd : ∀ x ∈ box.take (k + 1), 0 ≤ x ∧ x ≤ 4096 := by
            intro x hx
            rw [take_succ_getD box k HKL.out, List.mem_append] at hx
            rcases hx with hx | hx
            · have := List.any_eq_false.1 HN.out x hx
              simp [badDim] at this
              omega
            · have : x = q := by rw [HQ.out]; simpa using hx
              omega
          have hq := prod_take_bd (box.take (k + 1)) hd (k + 1)
          rw [List.take_take, Nat.min_self, HP.out, ← HQ.out] at hq
          have q3 : (4096 : Int) ^ (k + 1) ≤ 281474976710656 := by
            have : k + 1 = 1 ∨ k + 1 = 2 ∨ k + 1 = 3 ∨ k + 1 = 4 := by omega
            rcases this with e | e | e | e <;> rw [e] <;> decide
          have q4 : prod (box.take k) * q ≤ 281474976710656 := Int.le_trans hq.2 q3
          have q5 := hq.1
          have hn' := hide (not_mem_take_succ box k HKL.out HN.out (by rw [← HQ.out]; simp [badDim]; omega))
          clear hd hq q3
          go_wp2
          go_round
          case rel => exact ⟨k + 1, by omega, by go_num, by rw [HP.out, ← HQ.out], hn'.out⟩
          case measure => simp [intOf]; omega
    · obtain rfl : k = bl := by omega
      have hall : box.take k = box := take_all HL1.out hlt
      rw [hall]
      have hna : box.any badDim = false := by have := HN.out; rwa [hall] at this
      have eb : boxE box = if 4096 < prod box then 5 else 0 := by rw [EB.out, if_neg (by simp [hna])]
      have EB2 := hide eb
      clear hall hna eb hlt HN
      by_cases c5 : 4096 < prod box
      · have e1 : ptE box rs = 5 := by
          have : boxE box = 5 := by rw [EB2.out, if_pos c5]
          unfold ptE; rw [if_pos (by rw [this]; decide), this]
        have E1 := hide e1
        clear e1
        go_wp2
        go_ret
        rw [E1.out]
        exact ⟨rfl, HB.out⟩
      · have c1 : boxE box = 0 := by rw [EB2.out, if_neg c5]
        by_cases c3 : 8 < rl
        · have e1 : ptE box rs = 2 := by unfold ptE; rw [if_neg (by rw [c1]; decide), if_pos (by rw [HL2.out]; exact c3)]
          have E1 := hide e1
          clear e1 c1
          go_wp2
          go_ret
          rw [E1.out]
          exact ⟨rfl, HB.out⟩
        · have e1 : ptE box rs = rowsE rs k := by unfold ptE; rw [if_neg (by rw [c1]; decide), if_neg (by rw [HL2.out]; exact c3), HL1.out]
          have E1 := hide e1
          clear e1 c1
          go_wp2
          go_loopw [39] (fun i wr => ∃ j : Nat, j ≤ rl ∧ i = .int .i64 j ∧ rowsE (rs.take j) k = 0 ∧ Below w.heap.size w wr ∧ PtAt wr w.heap.size ba k bc ra rl rc) (fun i _ => rl - (intOf i).toNat)
          case atStart => exact ⟨0, Nat.zero_le _, rfl, by simp [rowsE], HB.out, HP0.out⟩
          case round =>
            obtain ⟨j, hj, rfl, hn, hB, hP⟩ := hrel
            have HN := hide hn
            have HBr := hide hB
            have HP := hide hP
            clear hn hB
            by_cases hlt : j < rl
            · have hkl : j < rs.length := by rw [HL2.out]; exact hlt
              obtain ⟨b, off, rfl, hat⟩ := (HR.out.below HBr.out).at (by omega)
              obtain ⟨a, l, c, k1, k2, k3, k4, k5⟩ := hat j hlt
              have z1 := lt_of_cell k1
              have z2 := lt_of_cell k2
              simp only at z1 z2
              obtain ⟨q, hq⟩ : ∃ q, q = rs[j]?.getD ([], 0) := ⟨_, rfl⟩
              rw [← hq] at k2 k3 k5
              have HQ := hide hq
              obtain ⟨cs, K⟩ := q
              simp only at k2 k3 k5
              have B2 : Below wr.heap.size wr (wr.alloc (.cells #[.slice a l c, .int .i64 K] 51)) := bl_new _
              obtain ⟨p0, p1⟩ := (hP.below B2).cells
              obtain ⟨p2, p3⟩ := hP.cells
              have pz := hP.lt
              have HC := hide (rRow_any a l c cs K k (wr.alloc (.cells #[.slice a l c, .int .i64 K] 51)) (Lst.below ⟨k3, k4⟩ B2) k5 hbl)
              have HKL := hide hkl
              have HB2 := hide B2
              clear hat k3 k4 k5 hq hkl B2 hP
              go_wp2_with (go_at_call 33; refine HC.out.mono ?_; rintro e w2 ⟨rfl, hb⟩; have HB3 := hide (bl_on HB2.out hb); clear hb)
              · have hx : rowE (cs, K) k ≠ 0 := by simpa using (by assumption : (rowE (cs, K) k != 0) = true)
                go_ret
                refine ⟨?_, bl_on HBr.out HB3.out⟩
                rw [E1.out, rowsE_here rs k j HKL.out HN.out (by rw [← HQ.out]; exact hx), ← HQ.out]; rfl
              · have hx : rowE (cs, K) k = 0 := by simpa using (by assumption : (rowE (cs, K) k != 0) = false)
                go_roundw
                case rel => exact ⟨j + 1, by omega, by go_num, rowsE_take rs k j HKL.out HN.out (by rw [← HQ.out]; exact hx), bl_on HBr.out HB3.out, HP.out.below HB3.out⟩
                case measure => simp [intOf]; omega
            · go_wp2
              go_ret
              have := HN.out
              rw [List.take_of_length_le (by rw [HL2.out]; omega)] at this
              exact ⟨by rw [E1.out, this]; rfl, HBr.out⟩
set_option maxHeartbeats 1000000 in
theorem rAt_any (a : Option Addr) (l c : Nat) (cs : List Int) (K : Int) (xa : Option Addr) (xl xc : Nat) (xs : List Int) (w : World) (h : Ints w a l cs) (hx : Ints w xa xl xs) (hl : l = xl) (h4 : l ≤ 4)
    (hK : -1048576 ≤ K ∧ K ≤ 1048576) (hc : ∀ c ∈ cs, -1048576 ≤ c ∧ c ≤ 1048576) (hb : ∀ x ∈ xs, 0 ≤ x ∧ x ≤ 4096) :
    Calls Try.prog 82 #[.agg #[.slice a l c, .int .i64 K], .slice xa xl xc] w fun e w' => e = .returned (.int .i64 (worthV (cs, K) xs)) ∧ Below w.heap.size w w' := by
  have B1 : Below w.heap.size w (w.alloc (.cells #[.slice a l c, .int .i64 K] 51)) := bl_new _
  have H := hide (h.below B1)
  have HX := hide (hx.below B1)
  have HL1 := hide h.1
  have HL2 := hide hx.1
  have HC := hide hc
  have HB := hide hb
  have HB1 := hide B1
  subst hl
  clear h hx hc hb B1
  go_enter Try.func82, Try.ntmps82
  go_wp2
  go_loopw [5, 12] (fun s i wr => ∃ k : Nat, k ≤ l ∧ i = .int .i64 k ∧ (∃ n, wr = (w.alloc (.cells #[.slice a l c, .int .i64 K] 51)).drewN n) ∧ s = .int .i64 (K + dotV (cs.take k) (xs.take k))) (fun _ i _ => l - (intOf i).toNat)
  case atStart => exact ⟨0, Nat.zero_le _, rfl, ⟨0, rfl⟩, by simp [dotV]⟩
  case round =>
    obtain ⟨k, hk, rfl, ⟨nn, rfl⟩, rfl⟩ := hrel
    by_cases hlt : k < l
    · obtain ⟨b, off, rfl, hb, hcc⟩ := H.out.at (by omega)
      obtain ⟨b', off', rfl, hb', hcc'⟩ := HX.out.at (by omega)
      have hck := hcc k hlt
      have hck' := hcc' k hlt
      have k1 : k < cs.length := by rw [HL1.out]; exact hlt
      have k2 : k < xs.length := by rw [HL2.out]; exact hlt
      have m1 := pt_mul_bd (HC.out _ (mem_getD cs k k1)) (HB.out _ (mem_getD xs k k2))
      have m2 := dotV_bd (cs.take k) (xs.take k) (fun c hc => HC.out c (List.mem_of_mem_take hc)) (fun x hx => HB.out x (List.mem_of_mem_take hx))
      have m3 : (cs.take k).length ≤ 4 := by rw [List.length_take]; omega
      have HD := hide (dotV_take cs xs k k1 k2)
      obtain ⟨S, hS⟩ : ∃ S, S = dotV (cs.take k) (xs.take k) := ⟨_, rfl⟩
      rw [← hS] at m2 ⊢
      have HS := hide hS
      have m4 : -17179869184 ≤ S ∧ S ≤ 17179869184 := by omega
      obtain ⟨x1, hx1⟩ : ∃ x, x = cs[k]?.getD 0 := ⟨_, rfl⟩
      obtain ⟨x2, hx2⟩ : ∃ x, x = xs[k]?.getD 0 := ⟨_, rfl⟩
      rw [← hx1] at hck m1
      rw [← hx2] at hck' m1
      have HX1 := hide hx1
      have HX2 := hide hx2
      have HM := hide (And.intro k1 k2)
      clear hcc hcc' k1 k2 m2 m3 hS hx1 hx2
      have cz := (Boxed.new w 3 (.int .i64 0)).lt
      go_wp2
      go_quiet (fail)
      go_wp2
      go_roundw
      case rel => exact ⟨k + 1, by omega, by go_num, ⟨_, rfl⟩, by rw [HD.out, ← HS.out, ← HX1.out, ← HX2.out]; go_num⟩
      case measure => simp [intOf]; omega
    · go_wp2
      go_ret
      refine ⟨?_, HB1.out.trans (below_drewN _ nn)⟩
      rw [take_all HL1.out hlt, take_all HL2.out hlt]
      rfl

end Go.Proofs.Ytmmigbkilbfheaa.V
namespace Go.Proofs.Ytmmigbkilbfheaa.V
open Go.RowKit
set_option linter.unusedVariables false

set_option maxHeartbeats 1000000 in
theorem rTakes_any (k : Int) (w : World) : Calls Try.prog 56 #[.int .i64 k] w fun e w' => e = .returned (.int .i64 (takesV k)) ∧ w' = w := by
  rcases kind_cases k with h | h | h | h | h | h | h | h | h | h | h
  case inr.inr.inr.inr.inr.inr.inr.inr.inr.inr =>
    rw [takes_none h]
    obtain ⟨h1, h2, h3, h4, h5, h6, h7, h8, h9, h10⟩ := h
    have k1 : (k == 1) = false := by simpa using h1
    have k2 : (k == 2) = false := by simpa using h2
    have k3 : (k == 3) = false := by simpa using h3
    have k4 : (k == 4) = false := by simpa using h4
    have k5 : (k == 5) = false := by simpa using h5
    have k6 : (k == 6) = false := by simpa using h6
    have k7 : (k == 7) = false := by simpa using h7
    have k8 : (k == 8) = false := by simpa using h8
    have k9 : (k == 9) = false := by simpa using h9
    have k10 : (k == 10) = false := by simpa using h10
    go_enter Try.func56, Try.ntmps56
    go_wp2
    go_ret
    exact ⟨rfl, rfl⟩
  all_goals
    subst h
    go_enter Try.func56, Try.ntmps56
    go_wp2
    go_ret
    exact ⟨rfl, rfl⟩

set_option maxHeartbeats 1000000 in
theorem rAccess_any (za : Option Addr) (zl zc : Nat) (vt : Value) (q : AW) (a : Acc) (vars : Nat) (w : World) (h : AG w q a) (hn : zl ≤ 9223372036854775807) (h4 : vars ≤ 4) :
    Calls Try.prog 57 #[.agg #[.slice za zl zc, vt], q.v, .int .i64 vars] w fun e w' => e = .returned (.int .i64 (accE zl a vars)) ∧ Below w.heap.size w w' := by
  have B0 : Below w.heap.size w (w.alloc (.cells #[.slice za zl zc, vt] 25)) := bl_new _
  have N0 : (w.alloc (.cells #[.slice za zl zc, vt] 25)).heap[w.heap.size]? = _ := World.alloc_heap_new w _
  obtain ⟨W, hW⟩ : ∃ W, W = w.alloc (.cells #[.slice za zl zc, vt] 25) := ⟨_, rfl⟩
  have hs : W.heap.size = w.heap.size + 1 := by rw [hW]; simp
  rw [← hW] at B0 N0
  have B1 : Below W.heap.size W (W.alloc (.cells #[.int .i64 q.arr, .slice q.ca q.cl q.cc, .int .i64 q.con] 71)) := bl_new _
  have P1 := AW.new q W
  have n0 : (W.alloc (.cells #[.int .i64 q.arr, .slice q.ca q.cl q.cc, .int .i64 q.con] 71)).cell? ⟨w.heap.size, 0, none⟩ = some (.slice za zl zc) := by
    rw [B1.cell (p := ⟨w.heap.size, 0, none⟩) (by simp only; omega)]
    simp [World.cell?, N0]
  obtain ⟨p0, p1, p2⟩ := P1.cells
  have h1 := (h.below B0).below B1
  have HC := hide (rRow_any q.ca q.cl q.cc a.2.1 a.2.2 vars _ ⟨h1.coef, h.cap⟩ h.bd.2 h4)
  have ha := h.arr
  have hk := h.con
  have hb1 := h.bd.1.1
  have hb2 := h.bd.1.2
  have HB := hide (bl_on B0 B1)
  have HW := hide hW
  rw [hs] at p0 p1 p2
  obtain ⟨arr, ca, cl, cc, con⟩ := q
  obtain ⟨aa, cs, ak⟩ := a
  simp only [AW.v] at *
  subst ha
  subst hk
  clear h h1 B1 P1 B0 N0 hs hW
  by_cases c1 : arr < 0
  · have e1 : accE zl (arr, cs, con) vars = 4 := by unfold accE; rw [if_pos (.inl c1)]
    rw [e1]
    clear e1
    rw [HW.out] at p0 p1 p2 n0 HB
    go_enter Try.func57, Try.ntmps57
    go_wp2_with fail
    go_ret
    exact ⟨rfl, HB.out⟩
  by_cases c2 : (zl : Int) ≤ arr
  · have e1 : accE zl (arr, cs, con) vars = 4 := by unfold accE; rw [if_pos (.inr c2)]
    rw [e1]
    clear e1
    rw [HW.out] at p0 p1 p2 n0 HB
    go_enter Try.func57, Try.ntmps57
    go_wp2_with fail
    go_ret
    exact ⟨rfl, HB.out⟩
  have e1 : accE zl (arr, cs, con) vars = rowE (cs, con) vars := by unfold accE; rw [if_neg (by simp only; omega)]
  rw [e1]
  clear e1
  rw [HW.out] at p0 p1 p2 n0 HB HC
  go_enter Try.func57, Try.ntmps57
  go_wp2_with (go_at_call 33; refine HC.out.mono ?_; rintro e w2 ⟨rfl, hb⟩; have HB2 := hide (bl_on HB.out hb); clear hb)
  go_ret
  exact ⟨rfl, HB2.out⟩
end Go.Proofs.Ytmmigbkilbfheaa.V
namespace Go.Proofs.Ytmmigbkilbfheaa.V
open Go.RowKit
set_option linter.unusedVariables false

set_option maxRecDepth 100000 in
set_option maxHeartbeats 8000000 in
theorem rNestWrong_any (za : Option Addr) (zl zc : Nat) (zs : List Int) (ta : Option Addr) (tl tc : Nat) (ss : List Stm) (w : World) (hz : Ints w za zl zs) (hs : Stms w ta tl ss) :
    Calls Try.prog 22 #[.agg #[.slice za zl zc, .slice ta tl tc]] w fun e w' => e = .returned (.int .i64 (nestE zs ss)) ∧ Below w.heap.size w w' := by
  have B1 : Below w.heap.size w (w.alloc (.cells #[.slice za zl zc, .slice ta tl tc] 25)) := bl_new _
  have P0 := NsBlk.new w za zl zc ta tl tc
  obtain ⟨p0, p1⟩ := P0.cells
  have HZI := hide (hz.below B1)
  have HS := hide hs
  have HB := hide B1
  have HP := hide P0
  have hm1 := hz.2.1
  have hm2 := hs.2.1
  have HZL := hide hz.1
  have HSL := hide hs.1
  by_cases c1 : 256 < tl
  · have e1 : nestE zs ss = 2 := by unfold nestE; rw [if_pos (by rw [hs.1]; exact c1)]
    rw [e1]
    clear hz hs e1 B1 P0
    go_enter Try.func22, Try.ntmps22
    go_wp2_with fail
    go_ret
    exact ⟨rfl, HB.out⟩
  have e1 : nestE zs ss = if zs.any badSize = true then 4 else stmsE zl ss := by unfold nestE; rw [if_neg (by rw [hs.1]; exact c1), hz.1]
  have E0 := hide e1
  clear hz hs e1 B1 P0
  go_enter Try.func22, Try.ntmps22
  go_wp2_with fail
  go_loop [19] (fun i => ∃ k : Nat, k ≤ zl ∧ i = .int .i64 k ∧ (zs.take k).any badSize = false) (fun i => zl - (intOf i).toNat)
  case atStart => exact ⟨0, Nat.zero_le _, rfl, by simp⟩
  case round =>
    obtain ⟨k, hk, rfl, hn⟩ := hrel
    have HN := hide hn
    clear hn
    by_cases hlt : k < zl
    · obtain ⟨b, off, rfl, hb, hc⟩ := HZI.out.at (by omega)
      have hck := hc k hlt
      clear hc
      have hkl : k < zs.length := by rw [HZL.out]; exact hlt
      have HKL := hide hkl
      clear hkl
      obtain ⟨x, hx⟩ : ∃ x, x = zs[k]?.getD 0 := ⟨_, rfl⟩
      rw [← hx] at hck
      by_cases h1 : x < 0
      · have HX : Hid (badSize (zs[k]?.getD 0) = true) := by rw [Hid, ← hx]; simp [badSize, h1]
        clear hx
        go_wp2_with fail
        go_ret
        exact ⟨by rw [E0.out, if_pos (any_of_getD zs k HKL.out HX.out)]; rfl, HB.out⟩
      · by_cases h2 : 65536 < x
        · have HX : Hid (badSize (zs[k]?.getD 0) = true) := by rw [Hid, ← hx]; simp [badSize, h2]
          clear hx
          go_wp2_with fail
          go_ret
          exact ⟨by rw [E0.out, if_pos (any_of_getD zs k HKL.out HX.out)]; rfl, HB.out⟩
        · have HX : Hid (badSize (zs[k]?.getD 0) = false) := by rw [Hid, ← hx]; simp [badSize]; omega
          clear hx
          go_wp2_with fail
          go_round
          case rel => exact ⟨k + 1, by omega, by go_num, not_mem_take_succ zs k HKL.out HN.out HX.out⟩
          case measure => simp [intOf]; omega
    · have c2 := HN.out
      rw [take_all HZL.out hlt] at c2
      have E2 : Hid (nestE zs ss = stmsE zl ss) := by rw [Hid, E0.out, if_neg (by simp [c2])]
      clear HN HZI c2
      go_wp2_with fail
      clear hlt hk
      go_loopw [33] (fun i wr => ∃ k : Nat, k ≤ tl ∧ i = .int .i64 k ∧ stmsE zl (ss.take k) = 0 ∧ Below w.heap.size w wr ∧ NsBlk wr w.heap.size za zl zc ta tl tc) (fun i _ => tl - (intOf i).toNat)
      case atStart => exact ⟨0, Nat.zero_le _, rfl, by simp [stmsE], HB.out, HP.out⟩
      case round =>
        obtain ⟨k, hk, rfl, hz, hB, hP⟩ := hrel
        have HZ := hide hz
        have HBr := hide hB
        have HP3 := hide hP
        obtain ⟨p0, p1⟩ := hP.cells
        have zP3 := hP.lt
        clear hz hB hP
        by_cases hlt : k < tl
        · have hkl : k < ss.length := by rw [HSL.out]; exact hlt
          obtain ⟨b, off, rfl, hat⟩ := (HS.out.below HBr.out).at (by omega)
          obtain ⟨q, hq, k0, k1, k2, k3, k4, k5, k6, k7⟩ := hat k hlt
          have z1 := lt_of_cell k0
          simp only at z1
          have B3 : Below wr.heap.size wr (wr.alloc (.cells q.cs 74)) := bl_new _
          obtain ⟨y0, y1, y2, y3, y4, y5, y6, y7⟩ := (SW.new q wr).cells
          have HP4 := hide (SW.new q wr)
          obtain ⟨r0, r1⟩ := (HP3.out.below B3).cells
          have HN4 := hide (HP3.out.below B3)
          have HB3 := hide B3
          have HKL := hide hkl
          obtain ⟨s, hs⟩ : ∃ s, s = ss[k]?.getD stmD := ⟨_, rfl⟩
          rw [← hs] at hq
          have HQ := hide hs
          have h1 := hq.below B3
          have HPW := hide (rptWrong_any q.ba q.bl q.bc s.box q.ra q.rl q.rc s.rows _ h1.box.1 h1.rows)
          have HAC := hide (fun (h4 : q.bl ≤ 4) (W : World) (hb : Below wr.heap.size wr W) => rAccess_any za zl zc (.slice (some ⟨b, off, none⟩) tl tc) q.pu s.put q.bl W (hq.put.below hb) hm1 h4)
          have HGE := hide hq.gets
          have hbl := hq.box.1.1
          have hgl := hq.gets.1
          have hgm := hq.gets.2.1
          have hkd := hq.kd
          have hbm := hq.box.1.2.1
          have hb1 := hq.bd.1.1
          have hb2 := hq.bd.1.2
          obtain ⟨ba, bl, bc, ra, rl, rc, kd, va, ⟨parr, pca, pcl, pcc, pcon⟩, ga, gl, gc⟩ := q
          obtain ⟨box, rows, kind, val, put, gets⟩ := s
          simp only [SW.cs, AW.v] at *
          subst hkd
          clear hat hq B3 hkl hs h1
          by_cases c1 : ptE box rows ≠ 0
          · have E1 : Hid (stmE zl ⟨box, rows, kd, val, put, gets⟩ = ptE box rows) := by unfold Hid stmE; simp only; rw [if_pos c1]
            have C1 := hide c1
            have c2 : (ptE box rows != 0) = true := by simpa using c1
            clear c1
            go_wp2_with (go_at_call 55; refine HPW.out.mono ?_; rintro e w1 ⟨rfl, hb⟩; have HB1 := hide (bl_on HB3.out hb); have P1 := HP4.out.below hb; obtain ⟨p0, p1, p2, p3, p4, p5, p6, p7⟩ := P1.cells; have zP := P1.lt; have HP1 := hide P1; have N1 := HN4.out.below hb; obtain ⟨n0, n1⟩ := N1.cells; have zN := N1.lt; have HN1 := hide N1; simp only at p0 p1 p2 p3 p4 p5 p6 p7; clear hb P1 N1)
            go_ret
            refine ⟨?_, bl_on HBr.out HB1.out⟩
            rw [E2.out, stmsE_here zl ss k HKL.out HZ.out (by rw [← HQ.out, E1.out]; exact C1.out), ← HQ.out, E1.out]; rfl
          have c1' : ptE box rows = 0 := by simpa using c1
          have C1 := hide c1'
          have h4 : bl ≤ 4 := by have := (ptE_ok c1').rank; omega
          have HAC := hide (fun W hb => HAC.out h4 W hb)
          have tb := takes_bd kd
          obtain ⟨T, hT⟩ : ∃ T, T = takesV kd := ⟨_, rfl⟩
          have HT := hide hT
          by_cases c2 : takesV kd < 0
          · have E1 : Hid (stmE zl ⟨box, rows, kd, val, put, gets⟩ = 1) := by unfold Hid stmE; simp only; rw [if_neg c1, if_pos c2]
            have c3 : T < 0 := by omega
            clear c1 c1' c2 hT
            go_wp2_with (first | (go_at_call 55; refine HPW.out.mono ?_; rintro e w1 ⟨rfl, hb⟩; rw [C1.out]; have HB1 := hide (bl_on HB3.out hb); have P1 := HP4.out.below hb; obtain ⟨p0, p1, p2, p3, p4, p5, p6, p7⟩ := P1.cells; have zP := P1.lt; have HP1 := hide P1; have N1 := HN4.out.below hb; obtain ⟨n0, n1⟩ := N1.cells; have zN := N1.lt; have HN1 := hide N1; simp only at p0 p1 p2 p3 p4 p5 p6 p7; clear hb P1 N1) | (go_at_call 56; refine (rTakes_any _ _).mono ?_; rintro e w' ⟨rfl, hw'⟩; obtain rfl := hw'.symm; rw [← HT.out]))
            go_ret
            refine ⟨?_, bl_on HBr.out HB1.out⟩
            rw [E2.out, stmsE_here zl ss k HKL.out HZ.out (by rw [← HQ.out, E1.out]; decide), ← HQ.out, E1.out]; rfl
          have c3 : ¬ T < 0 := by omega
          by_cases c4 : takesV kd ≠ (gets.length : Int)
          · have E1 : Hid (stmE zl ⟨box, rows, kd, val, put, gets⟩ = 2) := by unfold Hid stmE; simp only; rw [if_neg c1, if_neg c2, if_pos c4]
            have c5 : (T != (gl : Int)) = true := by simp; omega
            clear c1 c1' c2 c4 hT tb
            go_wp2_with (first | (go_at_call 55; refine HPW.out.mono ?_; rintro e w1 ⟨rfl, hb⟩; rw [C1.out]; have HB1 := hide (bl_on HB3.out hb); have P1 := HP4.out.below hb; obtain ⟨p0, p1, p2, p3, p4, p5, p6, p7⟩ := P1.cells; have zP := P1.lt; have HP1 := hide P1; have N1 := HN4.out.below hb; obtain ⟨n0, n1⟩ := N1.cells; have zN := N1.lt; have HN1 := hide N1; simp only at p0 p1 p2 p3 p4 p5 p6 p7; clear hb P1 N1) | (go_at_call 56; refine (rTakes_any _ _).mono ?_; rintro e w' ⟨rfl, hw'⟩; obtain rfl := hw'.symm; rw [← HT.out]))
            go_quiet ((go_at_call 56; refine (rTakes_any _ _).mono ?_; rintro e w' ⟨rfl, rfl⟩; rw [← HT.out]; exact ⟨rfl, _, rfl⟩))
            go_wp2_with fail
            go_ret
            refine ⟨?_, bl_on HBr.out (bl_on HB1.out (below_drewN _ _))⟩
            rw [E2.out, stmsE_here zl ss k HKL.out HZ.out (by rw [← HQ.out, E1.out]; decide), ← HQ.out, E1.out]; rfl
          have c4' : takesV kd = (gets.length : Int) := by simpa using c4
          have c5 : (T != (gl : Int)) = false := by simp; omega
          have hg3 : gl ≤ 3 := by omega
          by_cases c6 : accE zl put box.length ≠ 0
          · have E1 : Hid (stmE zl ⟨box, rows, kd, val, put, gets⟩ = accE zl put bl) := by unfold Hid stmE; simp only; rw [if_neg c1, if_neg c2, if_neg c4, if_pos c6, hbl]
            have C6 : Hid (accE zl put bl ≠ 0) := by rw [Hid, ← hbl]; exact c6
            have c7 : (accE zl put bl != 0) = true := by rw [← hbl]; simpa using c6
            clear c1 c1' c2 c4 hT tb c6 c4'
            go_wp2_with (first | (go_at_call 55; refine HPW.out.mono ?_; rintro e w1 ⟨rfl, hb⟩; rw [C1.out]; have HB1 := hide (bl_on HB3.out hb); have P1 := HP4.out.below hb; obtain ⟨p0, p1, p2, p3, p4, p5, p6, p7⟩ := P1.cells; have zP := P1.lt; have HP1 := hide P1; have N1 := HN4.out.below hb; obtain ⟨n0, n1⟩ := N1.cells; have zN := N1.lt; have HN1 := hide N1; simp only at p0 p1 p2 p3 p4 p5 p6 p7; clear hb P1 N1) | (go_at_call 56; refine (rTakes_any _ _).mono ?_; rintro e w' ⟨rfl, hw'⟩; obtain rfl := hw'.symm; rw [← HT.out]))
            go_quiet ((go_at_call 56; refine (rTakes_any _ _).mono ?_; rintro e w' ⟨rfl, rfl⟩; rw [← HT.out]; exact ⟨rfl, _, rfl⟩))
            go_wp2_with (go_at_call 57; refine (HAC.out (w1.drewN nq) (bl_on HB1.out (below_drewN _ _))).mono ?_; rintro e w2 ⟨rfl, hb⟩; have HB2 := hide (bl_on (bl_on HB1.out (below_drewN _ nq)) hb); have P2 := (HP1.out.below (below_drewN _ nq)).below hb; obtain ⟨p0, p1, p2, p3, p4, p5, p6, p7⟩ := P2.cells; have zP := P2.lt; have HP2 := hide P2; have N2 := (HN1.out.below (below_drewN _ nq)).below hb; obtain ⟨n0, n1⟩ := N2.cells; have zN := N2.lt; have HN2 := hide N2; simp only at p0 p1 p2 p3 p4 p5 p6 p7; clear hb P2 N2)
            go_ret
            refine ⟨?_, bl_on HBr.out HB2.out⟩
            rw [E2.out, stmsE_here zl ss k HKL.out HZ.out (by rw [← HQ.out, E1.out]; exact C6.out), ← HQ.out, E1.out]; rfl
          have E1 : Hid (stmE zl ⟨box, rows, kd, val, put, gets⟩ = accsE zl gets bl) := by unfold Hid stmE; simp only; rw [if_neg c1, if_neg c2, if_neg c4, if_neg c6, hbl]
          have c7 : accE zl put bl = 0 := by rw [← hbl]; simpa using c6
          have C7 := hide c7
          have HGL := hide hgl
          clear c1 c1' c2 c4 hT tb c6 c4' c7
          go_wp2_with (first | (go_at_call 55; refine HPW.out.mono ?_; rintro e w1 ⟨rfl, hb⟩; rw [C1.out]; have HB1 := hide (bl_on HB3.out hb); have P1 := HP4.out.below hb; obtain ⟨p0, p1, p2, p3, p4, p5, p6, p7⟩ := P1.cells; have zP := P1.lt; have HP1 := hide P1; have N1 := HN4.out.below hb; obtain ⟨n0, n1⟩ := N1.cells; have zN := N1.lt; have HN1 := hide N1; simp only at p0 p1 p2 p3 p4 p5 p6 p7; clear hb P1 N1) | (go_at_call 56; refine (rTakes_any _ _).mono ?_; rintro e w' ⟨rfl, hw'⟩; obtain rfl := hw'.symm; rw [← HT.out]))
          go_quiet ((go_at_call 56; refine (rTakes_any _ _).mono ?_; rintro e w' ⟨rfl, rfl⟩; rw [← HT.out]; exact ⟨rfl, _, rfl⟩))
          go_wp2_with (go_at_call 57; refine (HAC.out (w1.drewN nq) (bl_on HB1.out (below_drewN _ _))).mono ?_; rintro e w2 ⟨rfl, hb⟩; rw [C7.out]; have HB2 := hide (bl_on (bl_on HB1.out (below_drewN _ nq)) hb); have P2 := (HP1.out.below (below_drewN _ nq)).below hb; obtain ⟨p0, p1, p2, p3, p4, p5, p6, p7⟩ := P2.cells; have zP := P2.lt; have HP2 := hide P2; have N2 := (HN1.out.below (below_drewN _ nq)).below hb; obtain ⟨n0, n1⟩ := N2.cells; have zN := N2.lt; have HN2 := hide N2; simp only at p0 p1 p2 p3 p4 p5 p6 p7; clear hb P2 N2)
          clear HPW HAC p0 p1 p2 p3 p4 p5 p6 p7 n0 n1 y0 y1 y2 y3 y4 y5 y6 y7 r0 r1 k0 k1 k2 k3 k4 k5 k6 k7
          go_loopw [68] (fun i wr2 => ∃ j : Nat, j ≤ gl ∧ i = .int .i64 j ∧ accsE zl (gets.take j) bl = 0 ∧ Below w2.heap.size w2 wr2) (fun i _ => gl - (intOf i).toNat)
          case atStart => exact ⟨0, Nat.zero_le _, rfl, by simp [accsE], Below.refl _ _⟩
          case round =>
            rename_i wr2
            obtain ⟨j, hj, rfl, hz, hB⟩ := hrel
            have HZ2 := hide hz
            have HBr2 := hide hB
            have P3 := HP2.out.below hB
            obtain ⟨p0, p1, p2, p3, p4, p5, p6, p7⟩ := P3.cells
            have zP3 := P3.lt
            have HP3 := hide P3
            have N3 := HN2.out.below hB
            obtain ⟨n0, n1⟩ := N3.cells
            have zN3 := N3.lt
            have HN3 := hide N3
            clear hz hB P3 N3
            simp only at p0 p1 p2 p3 p4 p5 p6 p7
            by_cases hlt2 : j < gl
            · have hjl : j < gets.length := by rw [HGL.out]; exact hlt2
              obtain ⟨gb, go, rfl, hat⟩ := (HGE.out.below (bl_on HB2.out HBr2.out)).at (by omega)
              obtain ⟨q, hq, k1, k2, k3⟩ := (hat j hlt2).words
              have z1 := lt_of_cell k1
              simp only at z1
              have B3 := bl_new (w := wr) (.cells #[.int .i64 q.arr, .slice q.ca q.cl q.cc, .int .i64 q.con] 71)
              have HC := hide (rAccess_any za zl zc (.slice (some ⟨b, off, none⟩) tl tc) q _ bl _ (hq.below B3) hm1 h4)
              obtain ⟨y0, y1, y2⟩ := (AW.new q wr).cells
              obtain ⟨r0, r1, r2, r3, r4, r5, r6, r7⟩ := (HP3.out.below B3).cells
              obtain ⟨s0, s1⟩ := (HN3.out.below B3).cells
              have HB3 := hide B3
              have HJL := hide hjl
              obtain ⟨aq, haq⟩ : ∃ aq, aq = gets[j]?.getD accD := ⟨_, rfl⟩
              rw [← haq] at HC
              have HAQ := hide haq
              obtain ⟨arr, ca, cl, cc, con⟩ := q
              simp only [AW.v] at *
              clear hat hq B3 hjl haq
              go_wp2_with (go_at_call 57; refine HC.out.mono ?_; rintro e w3 ⟨rfl, hb⟩; have HB4 := hide (bl_on HB3.out hb); clear hb)
              · have hx : accE zl aq bl ≠ 0 := by simpa using (by assumption : (accE zl aq bl != 0) = true)
                go_ret
                refine ⟨?_, bl_on HBr.out (bl_on HB2.out (bl_on HBr2.out HB4.out))⟩
                have e := accsE_here zl gets bl j HJL.out HZ2.out (by rw [← HAQ.out]; exact hx)
                rw [E2.out, stmsE_here zl ss k HKL.out HZ.out (by rw [← HQ.out, E1.out, e, ← HAQ.out]; exact hx), ← HQ.out, E1.out, e, ← HAQ.out]; rfl
              · have hx : accE zl aq bl = 0 := by simpa using (by assumption : (accE zl aq bl != 0) = false)
                go_roundw
                case rel => exact ⟨j + 1, by omega, by go_num, accsE_take zl gets bl j HJL.out HZ2.out (by rw [← HAQ.out]; exact hx), bl_on HBr2.out HB4.out⟩
                case measure => simp [intOf]; omega
            · go_wp2_with fail
              have e := HZ2.out
              rw [List.take_of_length_le (by rw [HGL.out]; omega)] at e
              have HE := hide e
              clear e
              go_roundw
              case rel => exact ⟨k + 1, by omega, by go_num, stmsE_take zl ss k HKL.out HZ.out (by rw [← HQ.out, E1.out, HE.out]), bl_on HBr.out (bl_on HB2.out HBr2.out), HN3.out⟩
              case measure => simp [intOf]; omega
        · go_wp2_with fail
          go_ret
          have := HZ.out
          rw [List.take_of_length_le (by rw [HSL.out]; omega)] at this
          exact ⟨by rw [E2.out, this]; rfl, HBr.out⟩
end Go.Proofs.Ytmmigbkilbfheaa.V
namespace Go.Proofs.Ytmmigbkilbfheaa.V
open Go.RowKit
set_option linter.unusedVariables false

theorem info_R : (Try.prog.info? 51).map (fun i => (i.zero, i.size, i.bytes)) = some (some (.agg #[.slice none 0 0, .int .i64 0]), 2, 32) := by kernel_rfl
/-- The first k of what has been made, in a row of the call's own. -/
def OutR (W : World) (R len : Nat) (us : Nat → RW) (k : Nat) : Prop := ∃ f, W.rowIs R 51 (len * 2) f ∧ ∀ j, j < k → f (j * 2) = .slice (us j).ca (us j).cl (us j).cc ∧ f (j * 2 + 1) = .int .i64 (us j).con
theorem OutR.lt {W : World} {R len k : Nat} {us : Nat → RW} (h : OutR W R len us k) : R < W.heap.size := by
  obtain ⟨f, h1, _⟩ := h
  exact h1.lt
theorem OutR.below {W V : World} {R len k : Nat} {us : Nat → RW} (h : OutR W R len us k) (hb : Below W.heap.size W V) : OutR V R len us k := by
  obtain ⟨f, h1, h2⟩ := h
  exact ⟨f, h1.of_block (hb.block _ h1.lt), h2⟩
theorem OutR.lies {W : World} {R len k N : Nat} {us : Nat → RW} (h : OutR W R len us k) (hN : N ≤ R) : Lies N (fun V => OutR V R len us k) W := by
  obtain ⟨f, h1, h2⟩ := h
  exact (lies_row h1 hN).imp (fun V hV => ⟨f, hV, h2⟩)
theorem OutR.snoc {W : World} {R len k : Nat} {us : Nat → RW} (h : OutR W R len us k) (u : RW) : OutR ((W.setCell ⟨R, k * 2, none⟩ (.slice u.ca u.cl u.cc)).setCell ⟨R, k * 2 + 1, none⟩ (.int .i64 u.con)) R len (fun j => if j = k then u else us j) (k + 1) := by
  obtain ⟨f, h1, h2⟩ := h
  refine ⟨_, (h1.set (k * 2) _).set (k * 2 + 1) _, fun j hj => ?_⟩
  by_cases e : j = k
  · subst e
    simp only [if_true]
    refine ⟨?_, ?_⟩ <;> simp
  · obtain ⟨e0, e1⟩ := h2 j (by omega)
    simp only [if_neg e]
    refine ⟨by rw [if_neg (by omega)]; rw [if_neg (by omega)]; exact e0, by rw [if_neg (by omega)]; rw [if_neg (by omega)]; exact e1⟩
theorem info_A : (Try.prog.info? 71).map (fun i => (i.zero, i.size, i.bytes)) = some (some (.agg #[.int .i64 0, .slice none 0 0, .int .i64 0]), 3, 40) := by kernel_rfl
/-- The first k of what has been made, in a row of the call's own. -/
def OutA (W : World) (R len : Nat) (us : Nat → AW) (k : Nat) : Prop := ∃ f, W.rowIs R 71 (len * 3) f ∧ ∀ j, j < k → f (j * 3) = .int .i64 (us j).arr ∧ f (j * 3 + 1) = .slice (us j).ca (us j).cl (us j).cc ∧ f (j * 3 + 2) = .int .i64 (us j).con
theorem OutA.lt {W : World} {R len k : Nat} {us : Nat → AW} (h : OutA W R len us k) : R < W.heap.size := by
  obtain ⟨f, h1, _⟩ := h
  exact h1.lt
theorem OutA.below {W V : World} {R len k : Nat} {us : Nat → AW} (h : OutA W R len us k) (hb : Below W.heap.size W V) : OutA V R len us k := by
  obtain ⟨f, h1, h2⟩ := h
  exact ⟨f, h1.of_block (hb.block _ h1.lt), h2⟩
theorem OutA.lies {W : World} {R len k N : Nat} {us : Nat → AW} (h : OutA W R len us k) (hN : N ≤ R) : Lies N (fun V => OutA V R len us k) W := by
  obtain ⟨f, h1, h2⟩ := h
  exact (lies_row h1 hN).imp (fun V hV => ⟨f, hV, h2⟩)
theorem OutA.snoc {W : World} {R len k : Nat} {us : Nat → AW} (h : OutA W R len us k) (u : AW) : OutA (((W.setCell ⟨R, k * 3, none⟩ (.int .i64 u.arr)).setCell ⟨R, k * 3 + 1, none⟩ (.slice u.ca u.cl u.cc)).setCell ⟨R, k * 3 + 2, none⟩ (.int .i64 u.con)) R len (fun j => if j = k then u else us j) (k + 1) := by
  obtain ⟨f, h1, h2⟩ := h
  refine ⟨_, ((h1.set (k * 3) _).set (k * 3 + 1) _).set (k * 3 + 2) _, fun j hj => ?_⟩
  by_cases e : j = k
  · subst e
    simp only [if_true]
    refine ⟨?_, ?_, ?_⟩ <;> simp
  · obtain ⟨e0, e1, e2⟩ := h2 j (by omega)
    simp only [if_neg e]
    refine ⟨by rw [if_neg (by omega)]; rw [if_neg (by omega)]; rw [if_neg (by omega)]; exact e0, by rw [if_neg (by omega)]; rw [if_neg (by omega)]; rw [if_neg (by omega)]; exact e1, by rw [if_neg (by omega)]; rw [if_neg (by omega)]; rw [if_neg (by omega)]; exact e2⟩
theorem info_S : (Try.prog.info? 74).map (fun i => (i.zero, i.size, i.bytes)) = some (some (.agg #[.slice none 0 0, .slice none 0 0, .int .i64 0, .int .i64 0, .int .i64 0, .slice none 0 0, .int .i64 0, .slice none 0 0]), 8, 128) := by kernel_rfl
/-- The first k of what has been made, in a row of the call's own. -/
def OutS8 (W : World) (R len : Nat) (us : Nat → SW) (k : Nat) : Prop := ∃ f, W.rowIs R 74 (len * 8) f ∧ ∀ j, j < k → f (j * 8) = .slice (us j).ba (us j).bl (us j).bc ∧ f (j * 8 + 1) = .slice (us j).ra (us j).rl (us j).rc ∧ f (j * 8 + 2) = .int .i64 (us j).kd ∧ f (j * 8 + 3) = .int .i64 (us j).va ∧ f (j * 8 + 4) = .int .i64 (us j).pu.arr ∧ f (j * 8 + 5) = .slice (us j).pu.ca (us j).pu.cl (us j).pu.cc ∧ f (j * 8 + 6) = .int .i64 (us j).pu.con ∧ f (j * 8 + 7) = .slice (us j).ga (us j).gl (us j).gc
theorem OutS8.lt {W : World} {R len k : Nat} {us : Nat → SW} (h : OutS8 W R len us k) : R < W.heap.size := by
  obtain ⟨f, h1, _⟩ := h
  exact h1.lt
theorem OutS8.below {W V : World} {R len k : Nat} {us : Nat → SW} (h : OutS8 W R len us k) (hb : Below W.heap.size W V) : OutS8 V R len us k := by
  obtain ⟨f, h1, h2⟩ := h
  exact ⟨f, h1.of_block (hb.block _ h1.lt), h2⟩
theorem OutS8.lies {W : World} {R len k N : Nat} {us : Nat → SW} (h : OutS8 W R len us k) (hN : N ≤ R) : Lies N (fun V => OutS8 V R len us k) W := by
  obtain ⟨f, h1, h2⟩ := h
  exact (lies_row h1 hN).imp (fun V hV => ⟨f, hV, h2⟩)
theorem OutS8.snoc {W : World} {R len k : Nat} {us : Nat → SW} (h : OutS8 W R len us k) (u : SW) : OutS8 ((((((((W.setCell ⟨R, k * 8, none⟩ (.slice u.ba u.bl u.bc)).setCell ⟨R, k * 8 + 1, none⟩ (.slice u.ra u.rl u.rc)).setCell ⟨R, k * 8 + 2, none⟩ (.int .i64 u.kd)).setCell ⟨R, k * 8 + 3, none⟩ (.int .i64 u.va)).setCell ⟨R, k * 8 + 4, none⟩ (.int .i64 u.pu.arr)).setCell ⟨R, k * 8 + 5, none⟩ (.slice u.pu.ca u.pu.cl u.pu.cc)).setCell ⟨R, k * 8 + 6, none⟩ (.int .i64 u.pu.con)).setCell ⟨R, k * 8 + 7, none⟩ (.slice u.ga u.gl u.gc)) R len (fun j => if j = k then u else us j) (k + 1) := by
  obtain ⟨f, h1, h2⟩ := h
  refine ⟨_, (((((((h1.set (k * 8) _).set (k * 8 + 1) _).set (k * 8 + 2) _).set (k * 8 + 3) _).set (k * 8 + 4) _).set (k * 8 + 5) _).set (k * 8 + 6) _).set (k * 8 + 7) _, fun j hj => ?_⟩
  by_cases e : j = k
  · subst e
    simp only [if_true]
    refine ⟨?_, ?_, ?_, ?_, ?_, ?_, ?_, ?_⟩ <;> simp
  · obtain ⟨e0, e1, e2, e3, e4, e5, e6, e7⟩ := h2 j (by omega)
    simp only [if_neg e]
    refine ⟨by rw [if_neg (by omega)]; rw [if_neg (by omega)]; rw [if_neg (by omega)]; rw [if_neg (by omega)]; rw [if_neg (by omega)]; rw [if_neg (by omega)]; rw [if_neg (by omega)]; rw [if_neg (by omega)]; exact e0, by rw [if_neg (by omega)]; rw [if_neg (by omega)]; rw [if_neg (by omega)]; rw [if_neg (by omega)]; rw [if_neg (by omega)]; rw [if_neg (by omega)]; rw [if_neg (by omega)]; rw [if_neg (by omega)]; exact e1, by rw [if_neg (by omega)]; rw [if_neg (by omega)]; rw [if_neg (by omega)]; rw [if_neg (by omega)]; rw [if_neg (by omega)]; rw [if_neg (by omega)]; rw [if_neg (by omega)]; rw [if_neg (by omega)]; exact e2, by rw [if_neg (by omega)]; rw [if_neg (by omega)]; rw [if_neg (by omega)]; rw [if_neg (by omega)]; rw [if_neg (by omega)]; rw [if_neg (by omega)]; rw [if_neg (by omega)]; rw [if_neg (by omega)]; exact e3, by rw [if_neg (by omega)]; rw [if_neg (by omega)]; rw [if_neg (by omega)]; rw [if_neg (by omega)]; rw [if_neg (by omega)]; rw [if_neg (by omega)]; rw [if_neg (by omega)]; rw [if_neg (by omega)]; exact e4, by rw [if_neg (by omega)]; rw [if_neg (by omega)]; rw [if_neg (by omega)]; rw [if_neg (by omega)]; rw [if_neg (by omega)]; rw [if_neg (by omega)]; rw [if_neg (by omega)]; rw [if_neg (by omega)]; exact e5, by rw [if_neg (by omega)]; rw [if_neg (by omega)]; rw [if_neg (by omega)]; rw [if_neg (by omega)]; rw [if_neg (by omega)]; rw [if_neg (by omega)]; rw [if_neg (by omega)]; rw [if_neg (by omega)]; exact e6, by rw [if_neg (by omega)]; rw [if_neg (by omega)]; rw [if_neg (by omega)]; rw [if_neg (by omega)]; rw [if_neg (by omega)]; rw [if_neg (by omega)]; rw [if_neg (by omega)]; rw [if_neg (by omega)]; exact e7⟩
set_option maxRecDepth 100000 in
set_option maxHeartbeats 4000000 in
theorem eachRR (a : Option Addr) (len cap : Nat) (qs : Nat → RW) (g : Nat) (bs : Array Value) (eg : ∀ args w, (callFunc g args).run Try.prog w = .ok (.enter g args) w) (Q : Nat → RW → World → Prop) (w : World) (hlen : len * 32 ≤ 281474976710656)
    (hin : len = 0 ∨ ∃ b off, a = some ⟨b, off, none⟩ ∧ ∀ j, j < len → w.cell? ⟨b, off + j * 2, none⟩ = some (.slice (qs j).ca (qs j).cl (qs j).cc) ∧ w.cell? ⟨b, off + j * 2 + 1, none⟩ = some (.int .i64 (qs j).con))
    (hcall : ∀ (j : Nat) (W : World), j < len → Below w.heap.size w W → w.heap.size < W.heap.size → Calls Try.prog g (#[(qs j).v] ++ bs) W fun e w' => (∃ u : RW, e = .returned u.v ∧ Lies W.heap.size (Q j u) w') ∧ Below W.heap.size W w') :
    Calls Try.prog 108 #[.slice a len cap, .func (.func g) #[] bs] w fun e w' => (∃ us : Nat → RW, e = .returned (.slice (some ⟨w.heap.size, 0, none⟩) len len) ∧ OutR w' w.heap.size len us len ∧ ∀ j, j < len → Lies (w.heap.size + 1) (Q j (us j)) w') ∧ Below w.heap.size w w' := by
  have HIN := hide hin
  have HCALL := hide hcall
  obtain ⟨i0, hi, hz0, hz1, hz2⟩ := info_parts info_R
  have hmk : ∀ W : World, (Instr.makeSlice 48 (.int .i64 (len : Int)) (.int .i64 (len : Int))).run Try.prog W = .ok (.slice (some ⟨W.heap.size, 0, none⟩) len len) (W.alloc (.cells (madeCells #[.slice none 0 0, .int .i64 0] (len * 2)) 51)) := fun W => by
    have := run_make (P := Try.prog) W 48 51 i0 (.agg #[.slice none 0 0, .int .i64 0]) Try.underlying48 hi hz0 .i64 .i64 len len (by omega) (by omega) (by rw [hz2]; omega) (by omega)
    simpa [hz1, Value.cells] using this
  have HROW : Hid (OutR (w.alloc (.cells (madeCells #[.slice none 0 0, .int .i64 0] (len * 2)) 51)) w.heap.size len (fun _ => ⟨none, 0, 0, 0⟩) 0) := ⟨fun i => (#[.slice none 0 0, .int .i64 0] : Array Value)[i % 2]!, ⟨_, World.alloc_heap_new _ _, size_madeCells _ _, fun i hi => by simp [madeCells, hi]⟩, fun j hj => by omega⟩
  have HB0 : Hid (Below w.heap.size w (w.alloc (.cells (madeCells #[.slice none 0 0, .int .i64 0] (len * 2)) 51))) := bl_new _
  clear hin hcall hi hz0 hz1 hz2
  go_enter Try.func108, Try.ntmps108
  go_wp2_with fail
  clear hmk
  go_loopw [13] (fun i wr => ∃ k : Nat, k ≤ len ∧ i = .int .i64 k ∧ (∃ us, OutR wr w.heap.size len us k ∧ ∀ j, j < k → Lies (w.heap.size + 1) (Q j (us j)) wr) ∧ Below w.heap.size w wr) (fun i _ => len - (intOf i).toNat)
  case atStart => exact ⟨0, Nat.zero_le _, rfl, ⟨_, HROW.out, fun j hj => by omega⟩, HB0.out⟩
  case round =>
    obtain ⟨k, hk, rfl, ⟨us, hT, hL⟩, hB⟩ := hrel
    have HT := hide hT
    have HL := hide hL
    have HB := hide hB
    clear HROW HB0 hL
    by_cases hlt : k < len
    · obtain ⟨b, off, rfl, hat⟩ := HIN.out.resolve_left (by omega)
      obtain ⟨c0, c1⟩ := hat k hlt
      have HC0 := hide (HCALL.out k)
      obtain ⟨q, hq⟩ : ∃ q, q = qs k := ⟨_, rfl⟩
      rw [← hq] at HC0 c0 c1
      have c0' := (HB.out.cell (p := ⟨b, off + k * 2, none⟩) (lt_of_cell c0)).trans c0
      have z0 := lt_of_cell c0'
      have c1' := (HB.out.cell (p := ⟨b, off + k * 2 + 1, none⟩) (lt_of_cell c1)).trans c1
      have z1 := lt_of_cell c1'
      have hRl := hT.lt
      have B2 : Below wr.heap.size wr (wr.alloc (.cells #[.slice q.ca q.cl q.cc, .int .i64 q.con] 51)) := bl_new _
      have HC := hide (HC0.out (wr.alloc (.cells #[.slice q.ca q.cl q.cc, .int .i64 q.con] 51)) hlt (bl_on HB.out B2) (by rw [World.size_alloc]; omega))
      have HB2 := hide B2
      unfold RW.v  at HC
      clear hat hq B2 hT hB HC0 c0 c1
      go_wp2_with fail
      refine HC.out.mono ?_
      rintro e w2 ⟨⟨u, rfl, hl⟩, hb2⟩
      have T2 := HT.out.below (bl_on HB2.out hb2)
      obtain ⟨f, r1, r2⟩ := T2
      have d0 := r1.cell (i := k * 2) (by omega)
      have y0 := r1.frozen (k * 2)
      have d1 := r1.cell (i := k * 2 + 1) (by omega)
      have y1 := r1.frozen (k * 2 + 1)
      have z3 := r1.lt
      have hsz := HB.out.size
      have HT2 := hide (OutR.snoc ⟨f, r1, r2⟩ u)
      have HLn := hide (hl.mono (N := w.heap.size + 1) (by rw [World.size_alloc]; omega))
      have HLo := hide (fun j (hj : j < k) => (HL.out j hj).below (bl_on HB2.out hb2))
      have HBb := hide (bl_on HB.out (bl_on HB2.out hb2))
      clear hb2 r1 r2 hl
      try unfold RW.v 
      go_wp2_with fail
      go_roundw
      case rel =>
        refine ⟨k + 1, by omega, by go_num, ⟨_, HT2.out, fun j hj => ?_⟩, ((HBb.out.setCell (p := ⟨w.heap.size, k * 2, none⟩) (Nat.le_refl _) _).setCell (p := ⟨w.heap.size, k * 2 + 1, none⟩) (Nat.le_refl _) _)⟩
        by_cases e : k = j
        · subst e
          simp only [if_true]
          have hl := HLn.out
          exact (((hl).set (p := ⟨w.heap.size, k * 2, none⟩) (by simp only; omega) _).set (p := ⟨w.heap.size, k * 2 + 1, none⟩) (by simp only; omega) _)
        · simp only [if_neg (fun e' : j = k => e e'.symm)]
          have hl := HLo.out j (by omega)
          exact (((hl).set (p := ⟨w.heap.size, k * 2, none⟩) (by simp only; omega) _).set (p := ⟨w.heap.size, k * 2 + 1, none⟩) (by simp only; omega) _)
      case measure => simp [intOf]; omega
    · obtain rfl : k = len := by omega
      clear hT hB
      go_wp2_with fail
      go_ret
      exact ⟨⟨us, rfl, HT.out, HL.out⟩, HB.out⟩
set_option maxRecDepth 100000 in
set_option maxHeartbeats 4000000 in
theorem eachAA (a : Option Addr) (len cap : Nat) (qs : Nat → AW) (g : Nat) (bs : Array Value) (eg : ∀ args w, (callFunc g args).run Try.prog w = .ok (.enter g args) w) (Q : Nat → AW → World → Prop) (w : World) (hlen : len * 40 ≤ 281474976710656)
    (hin : len = 0 ∨ ∃ b off, a = some ⟨b, off, none⟩ ∧ ∀ j, j < len → w.cell? ⟨b, off + j * 3, none⟩ = some (.int .i64 (qs j).arr) ∧ w.cell? ⟨b, off + j * 3 + 1, none⟩ = some (.slice (qs j).ca (qs j).cl (qs j).cc) ∧ w.cell? ⟨b, off + j * 3 + 2, none⟩ = some (.int .i64 (qs j).con))
    (hcall : ∀ (j : Nat) (W : World), j < len → Below w.heap.size w W → w.heap.size < W.heap.size → Calls Try.prog g (#[(qs j).v] ++ bs) W fun e w' => (∃ u : AW, e = .returned u.v ∧ Lies W.heap.size (Q j u) w') ∧ Below W.heap.size W w') :
    Calls Try.prog 109 #[.slice a len cap, .func (.func g) #[] bs] w fun e w' => (∃ us : Nat → AW, e = .returned (.slice (some ⟨w.heap.size, 0, none⟩) len len) ∧ OutA w' w.heap.size len us len ∧ ∀ j, j < len → Lies (w.heap.size + 1) (Q j (us j)) w') ∧ Below w.heap.size w w' := by
  have HIN := hide hin
  have HCALL := hide hcall
  obtain ⟨i0, hi, hz0, hz1, hz2⟩ := info_parts info_A
  have hmk : ∀ W : World, (Instr.makeSlice 72 (.int .i64 (len : Int)) (.int .i64 (len : Int))).run Try.prog W = .ok (.slice (some ⟨W.heap.size, 0, none⟩) len len) (W.alloc (.cells (madeCells #[.int .i64 0, .slice none 0 0, .int .i64 0] (len * 3)) 71)) := fun W => by
    have := run_make (P := Try.prog) W 72 71 i0 (.agg #[.int .i64 0, .slice none 0 0, .int .i64 0]) Try.underlying72 hi hz0 .i64 .i64 len len (by omega) (by omega) (by rw [hz2]; omega) (by omega)
    simpa [hz1, Value.cells] using this
  have HROW : Hid (OutA (w.alloc (.cells (madeCells #[.int .i64 0, .slice none 0 0, .int .i64 0] (len * 3)) 71)) w.heap.size len (fun _ => ⟨0, none, 0, 0, 0⟩) 0) := ⟨fun i => (#[.int .i64 0, .slice none 0 0, .int .i64 0] : Array Value)[i % 3]!, ⟨_, World.alloc_heap_new _ _, size_madeCells _ _, fun i hi => by simp [madeCells, hi]⟩, fun j hj => by omega⟩
  have HB0 : Hid (Below w.heap.size w (w.alloc (.cells (madeCells #[.int .i64 0, .slice none 0 0, .int .i64 0] (len * 3)) 71))) := bl_new _
  clear hin hcall hi hz0 hz1 hz2
  go_enter Try.func109, Try.ntmps109
  go_wp2_with fail
  clear hmk
  go_loopw [13] (fun i wr => ∃ k : Nat, k ≤ len ∧ i = .int .i64 k ∧ (∃ us, OutA wr w.heap.size len us k ∧ ∀ j, j < k → Lies (w.heap.size + 1) (Q j (us j)) wr) ∧ Below w.heap.size w wr) (fun i _ => len - (intOf i).toNat)
  case atStart => exact ⟨0, Nat.zero_le _, rfl, ⟨_, HROW.out, fun j hj => by omega⟩, HB0.out⟩
  case round =>
    obtain ⟨k, hk, rfl, ⟨us, hT, hL⟩, hB⟩ := hrel
    have HT := hide hT
    have HL := hide hL
    have HB := hide hB
    clear HROW HB0 hL
    by_cases hlt : k < len
    · obtain ⟨b, off, rfl, hat⟩ := HIN.out.resolve_left (by omega)
      obtain ⟨c0, c1, c2⟩ := hat k hlt
      have HC0 := hide (HCALL.out k)
      obtain ⟨q, hq⟩ : ∃ q, q = qs k := ⟨_, rfl⟩
      rw [← hq] at HC0 c0 c1 c2
      have c0' := (HB.out.cell (p := ⟨b, off + k * 3, none⟩) (lt_of_cell c0)).trans c0
      have z0 := lt_of_cell c0'
      have c1' := (HB.out.cell (p := ⟨b, off + k * 3 + 1, none⟩) (lt_of_cell c1)).trans c1
      have z1 := lt_of_cell c1'
      have c2' := (HB.out.cell (p := ⟨b, off + k * 3 + 2, none⟩) (lt_of_cell c2)).trans c2
      have z2 := lt_of_cell c2'
      have hRl := hT.lt
      have B2 : Below wr.heap.size wr (wr.alloc (.cells #[.int .i64 q.arr, .slice q.ca q.cl q.cc, .int .i64 q.con] 71)) := bl_new _
      have HC := hide (HC0.out (wr.alloc (.cells #[.int .i64 q.arr, .slice q.ca q.cl q.cc, .int .i64 q.con] 71)) hlt (bl_on HB.out B2) (by rw [World.size_alloc]; omega))
      have HB2 := hide B2
      unfold AW.v  at HC
      clear hat hq B2 hT hB HC0 c0 c1 c2
      go_wp2_with fail
      refine HC.out.mono ?_
      rintro e w2 ⟨⟨u, rfl, hl⟩, hb2⟩
      have T2 := HT.out.below (bl_on HB2.out hb2)
      obtain ⟨f, r1, r2⟩ := T2
      have d0 := r1.cell (i := k * 3) (by omega)
      have y0 := r1.frozen (k * 3)
      have d1 := r1.cell (i := k * 3 + 1) (by omega)
      have y1 := r1.frozen (k * 3 + 1)
      have d2 := r1.cell (i := k * 3 + 2) (by omega)
      have y2 := r1.frozen (k * 3 + 2)
      have z3 := r1.lt
      have hsz := HB.out.size
      have HT2 := hide (OutA.snoc ⟨f, r1, r2⟩ u)
      have HLn := hide (hl.mono (N := w.heap.size + 1) (by rw [World.size_alloc]; omega))
      have HLo := hide (fun j (hj : j < k) => (HL.out j hj).below (bl_on HB2.out hb2))
      have HBb := hide (bl_on HB.out (bl_on HB2.out hb2))
      clear hb2 r1 r2 hl
      try unfold AW.v 
      go_wp2_with fail
      go_roundw
      case rel =>
        refine ⟨k + 1, by omega, by go_num, ⟨_, HT2.out, fun j hj => ?_⟩, (((HBb.out.setCell (p := ⟨w.heap.size, k * 3, none⟩) (Nat.le_refl _) _).setCell (p := ⟨w.heap.size, k * 3 + 1, none⟩) (Nat.le_refl _) _).setCell (p := ⟨w.heap.size, k * 3 + 2, none⟩) (Nat.le_refl _) _)⟩
        by_cases e : k = j
        · subst e
          simp only [if_true]
          have hl := HLn.out
          exact ((((hl).set (p := ⟨w.heap.size, k * 3, none⟩) (by simp only; omega) _).set (p := ⟨w.heap.size, k * 3 + 1, none⟩) (by simp only; omega) _).set (p := ⟨w.heap.size, k * 3 + 2, none⟩) (by simp only; omega) _)
        · simp only [if_neg (fun e' : j = k => e e'.symm)]
          have hl := HLo.out j (by omega)
          exact ((((hl).set (p := ⟨w.heap.size, k * 3, none⟩) (by simp only; omega) _).set (p := ⟨w.heap.size, k * 3 + 1, none⟩) (by simp only; omega) _).set (p := ⟨w.heap.size, k * 3 + 2, none⟩) (by simp only; omega) _)
      case measure => simp [intOf]; omega
    · obtain rfl : k = len := by omega
      clear hT hB
      go_wp2_with fail
      go_ret
      exact ⟨⟨us, rfl, HT.out, HL.out⟩, HB.out⟩
set_option maxRecDepth 100000 in
set_option maxHeartbeats 4000000 in
theorem eachSS (a : Option Addr) (len cap : Nat) (qs : Nat → SW) (g : Nat) (bs : Array Value) (eg : ∀ args w, (callFunc g args).run Try.prog w = .ok (.enter g args) w) (Q : Nat → SW → World → Prop) (w : World) (hlen : len * 128 ≤ 281474976710656)
    (hin : len = 0 ∨ ∃ b off, a = some ⟨b, off, none⟩ ∧ ∀ j, j < len → w.cell? ⟨b, off + j * 8, none⟩ = some (.slice (qs j).ba (qs j).bl (qs j).bc) ∧ w.cell? ⟨b, off + j * 8 + 1, none⟩ = some (.slice (qs j).ra (qs j).rl (qs j).rc) ∧ w.cell? ⟨b, off + j * 8 + 2, none⟩ = some (.int .i64 (qs j).kd) ∧ w.cell? ⟨b, off + j * 8 + 3, none⟩ = some (.int .i64 (qs j).va) ∧ w.cell? ⟨b, off + j * 8 + 4, none⟩ = some (.int .i64 (qs j).pu.arr) ∧ w.cell? ⟨b, off + j * 8 + 5, none⟩ = some (.slice (qs j).pu.ca (qs j).pu.cl (qs j).pu.cc) ∧ w.cell? ⟨b, off + j * 8 + 6, none⟩ = some (.int .i64 (qs j).pu.con) ∧ w.cell? ⟨b, off + j * 8 + 7, none⟩ = some (.slice (qs j).ga (qs j).gl (qs j).gc))
    (hcall : ∀ (j : Nat) (W : World), j < len → Below w.heap.size w W → w.heap.size < W.heap.size → Calls Try.prog g (#[(qs j).v] ++ bs) W fun e w' => (∃ u : SW, e = .returned u.v ∧ Lies W.heap.size (Q j u) w') ∧ Below W.heap.size W w') :
    Calls Try.prog 48 #[.slice a len cap, .func (.func g) #[] bs] w fun e w' => (∃ us : Nat → SW, e = .returned (.slice (some ⟨w.heap.size, 0, none⟩) len len) ∧ OutS8 w' w.heap.size len us len ∧ ∀ j, j < len → Lies (w.heap.size + 1) (Q j (us j)) w') ∧ Below w.heap.size w w' := by
  have HIN := hide hin
  have HCALL := hide hcall
  obtain ⟨i0, hi, hz0, hz1, hz2⟩ := info_parts info_S
  have hmk : ∀ W : World, (Instr.makeSlice 23 (.int .i64 (len : Int)) (.int .i64 (len : Int))).run Try.prog W = .ok (.slice (some ⟨W.heap.size, 0, none⟩) len len) (W.alloc (.cells (madeCells #[.slice none 0 0, .slice none 0 0, .int .i64 0, .int .i64 0, .int .i64 0, .slice none 0 0, .int .i64 0, .slice none 0 0] (len * 8)) 74)) := fun W => by
    have := run_make (P := Try.prog) W 23 74 i0 (.agg #[.slice none 0 0, .slice none 0 0, .int .i64 0, .int .i64 0, .int .i64 0, .slice none 0 0, .int .i64 0, .slice none 0 0]) Try.underlying23 hi hz0 .i64 .i64 len len (by omega) (by omega) (by rw [hz2]; omega) (by omega)
    simpa [hz1, Value.cells] using this
  have HROW : Hid (OutS8 (w.alloc (.cells (madeCells #[.slice none 0 0, .slice none 0 0, .int .i64 0, .int .i64 0, .int .i64 0, .slice none 0 0, .int .i64 0, .slice none 0 0] (len * 8)) 74)) w.heap.size len (fun _ => swD) 0) := ⟨fun i => (#[.slice none 0 0, .slice none 0 0, .int .i64 0, .int .i64 0, .int .i64 0, .slice none 0 0, .int .i64 0, .slice none 0 0] : Array Value)[i % 8]!, ⟨_, World.alloc_heap_new _ _, size_madeCells _ _, fun i hi => by simp [madeCells, hi]⟩, fun j hj => by omega⟩
  have HB0 : Hid (Below w.heap.size w (w.alloc (.cells (madeCells #[.slice none 0 0, .slice none 0 0, .int .i64 0, .int .i64 0, .int .i64 0, .slice none 0 0, .int .i64 0, .slice none 0 0] (len * 8)) 74))) := bl_new _
  clear hin hcall hi hz0 hz1 hz2
  go_enter Try.func48, Try.ntmps48
  go_wp2_with fail
  clear hmk
  go_loopw [13] (fun i wr => ∃ k : Nat, k ≤ len ∧ i = .int .i64 k ∧ (∃ us, OutS8 wr w.heap.size len us k ∧ ∀ j, j < k → Lies (w.heap.size + 1) (Q j (us j)) wr) ∧ Below w.heap.size w wr) (fun i _ => len - (intOf i).toNat)
  case atStart => exact ⟨0, Nat.zero_le _, rfl, ⟨_, HROW.out, fun j hj => by omega⟩, HB0.out⟩
  case round =>
    obtain ⟨k, hk, rfl, ⟨us, hT, hL⟩, hB⟩ := hrel
    have HT := hide hT
    have HL := hide hL
    have HB := hide hB
    clear HROW HB0 hL
    by_cases hlt : k < len
    · obtain ⟨b, off, rfl, hat⟩ := HIN.out.resolve_left (by omega)
      obtain ⟨c0, c1, c2, c3, c4, c5, c6, c7⟩ := hat k hlt
      have HC0 := hide (HCALL.out k)
      obtain ⟨q, hq⟩ : ∃ q, q = qs k := ⟨_, rfl⟩
      rw [← hq] at HC0 c0 c1 c2 c3 c4 c5 c6 c7
      have c0' := (HB.out.cell (p := ⟨b, off + k * 8, none⟩) (lt_of_cell c0)).trans c0
      have z0 := lt_of_cell c0'
      have c1' := (HB.out.cell (p := ⟨b, off + k * 8 + 1, none⟩) (lt_of_cell c1)).trans c1
      have z1 := lt_of_cell c1'
      have c2' := (HB.out.cell (p := ⟨b, off + k * 8 + 2, none⟩) (lt_of_cell c2)).trans c2
      have z2 := lt_of_cell c2'
      have c3' := (HB.out.cell (p := ⟨b, off + k * 8 + 3, none⟩) (lt_of_cell c3)).trans c3
      have z3 := lt_of_cell c3'
      have c4' := (HB.out.cell (p := ⟨b, off + k * 8 + 4, none⟩) (lt_of_cell c4)).trans c4
      have z4 := lt_of_cell c4'
      have c5' := (HB.out.cell (p := ⟨b, off + k * 8 + 5, none⟩) (lt_of_cell c5)).trans c5
      have z5 := lt_of_cell c5'
      have c6' := (HB.out.cell (p := ⟨b, off + k * 8 + 6, none⟩) (lt_of_cell c6)).trans c6
      have z6 := lt_of_cell c6'
      have c7' := (HB.out.cell (p := ⟨b, off + k * 8 + 7, none⟩) (lt_of_cell c7)).trans c7
      have z7 := lt_of_cell c7'
      have hRl := hT.lt
      have B2 : Below wr.heap.size wr (wr.alloc (.cells #[.slice q.ba q.bl q.bc, .slice q.ra q.rl q.rc, .int .i64 q.kd, .int .i64 q.va, .int .i64 q.pu.arr, .slice q.pu.ca q.pu.cl q.pu.cc, .int .i64 q.pu.con, .slice q.ga q.gl q.gc] 74)) := bl_new _
      have HC := hide (HC0.out (wr.alloc (.cells #[.slice q.ba q.bl q.bc, .slice q.ra q.rl q.rc, .int .i64 q.kd, .int .i64 q.va, .int .i64 q.pu.arr, .slice q.pu.ca q.pu.cl q.pu.cc, .int .i64 q.pu.con, .slice q.ga q.gl q.gc] 74)) hlt (bl_on HB.out B2) (by rw [World.size_alloc]; omega))
      have HB2 := hide B2
      unfold SW.v  SW.cs at HC
      clear hat hq B2 hT hB HC0 c0 c1 c2 c3 c4 c5 c6 c7
      go_wp2_with fail
      refine HC.out.mono ?_
      rintro e w2 ⟨⟨u, rfl, hl⟩, hb2⟩
      have T2 := HT.out.below (bl_on HB2.out hb2)
      obtain ⟨f, r1, r2⟩ := T2
      have d0 := r1.cell (i := k * 8) (by omega)
      have y0 := r1.frozen (k * 8)
      have d1 := r1.cell (i := k * 8 + 1) (by omega)
      have y1 := r1.frozen (k * 8 + 1)
      have d2 := r1.cell (i := k * 8 + 2) (by omega)
      have y2 := r1.frozen (k * 8 + 2)
      have d3 := r1.cell (i := k * 8 + 3) (by omega)
      have y3 := r1.frozen (k * 8 + 3)
      have d4 := r1.cell (i := k * 8 + 4) (by omega)
      have y4 := r1.frozen (k * 8 + 4)
      have d5 := r1.cell (i := k * 8 + 5) (by omega)
      have y5 := r1.frozen (k * 8 + 5)
      have d6 := r1.cell (i := k * 8 + 6) (by omega)
      have y6 := r1.frozen (k * 8 + 6)
      have d7 := r1.cell (i := k * 8 + 7) (by omega)
      have y7 := r1.frozen (k * 8 + 7)
      have z3 := r1.lt
      have hsz := HB.out.size
      have HT2 := hide (OutS8.snoc ⟨f, r1, r2⟩ u)
      have HLn := hide (hl.mono (N := w.heap.size + 1) (by rw [World.size_alloc]; omega))
      have HLo := hide (fun j (hj : j < k) => (HL.out j hj).below (bl_on HB2.out hb2))
      have HBb := hide (bl_on HB.out (bl_on HB2.out hb2))
      clear hb2 r1 r2 hl
      try unfold SW.v  SW.cs
      go_wp2_with fail
      go_roundw
      case rel =>
        refine ⟨k + 1, by omega, by go_num, ⟨_, HT2.out, fun j hj => ?_⟩, ((((((((HBb.out.setCell (p := ⟨w.heap.size, k * 8, none⟩) (Nat.le_refl _) _).setCell (p := ⟨w.heap.size, k * 8 + 1, none⟩) (Nat.le_refl _) _).setCell (p := ⟨w.heap.size, k * 8 + 2, none⟩) (Nat.le_refl _) _).setCell (p := ⟨w.heap.size, k * 8 + 3, none⟩) (Nat.le_refl _) _).setCell (p := ⟨w.heap.size, k * 8 + 4, none⟩) (Nat.le_refl _) _).setCell (p := ⟨w.heap.size, k * 8 + 5, none⟩) (Nat.le_refl _) _).setCell (p := ⟨w.heap.size, k * 8 + 6, none⟩) (Nat.le_refl _) _).setCell (p := ⟨w.heap.size, k * 8 + 7, none⟩) (Nat.le_refl _) _)⟩
        by_cases e : k = j
        · subst e
          simp only [if_true]
          have hl := HLn.out
          exact (((((((((hl).set (p := ⟨w.heap.size, k * 8, none⟩) (by simp only; omega) _).set (p := ⟨w.heap.size, k * 8 + 1, none⟩) (by simp only; omega) _).set (p := ⟨w.heap.size, k * 8 + 2, none⟩) (by simp only; omega) _).set (p := ⟨w.heap.size, k * 8 + 3, none⟩) (by simp only; omega) _).set (p := ⟨w.heap.size, k * 8 + 4, none⟩) (by simp only; omega) _).set (p := ⟨w.heap.size, k * 8 + 5, none⟩) (by simp only; omega) _).set (p := ⟨w.heap.size, k * 8 + 6, none⟩) (by simp only; omega) _).set (p := ⟨w.heap.size, k * 8 + 7, none⟩) (by simp only; omega) _)
        · simp only [if_neg (fun e' : j = k => e e'.symm)]
          have hl := HLo.out j (by omega)
          exact (((((((((hl).set (p := ⟨w.heap.size, k * 8, none⟩) (by simp only; omega) _).set (p := ⟨w.heap.size, k * 8 + 1, none⟩) (by simp only; omega) _).set (p := ⟨w.heap.size, k * 8 + 2, none⟩) (by simp only; omega) _).set (p := ⟨w.heap.size, k * 8 + 3, none⟩) (by simp only; omega) _).set (p := ⟨w.heap.size, k * 8 + 4, none⟩) (by simp only; omega) _).set (p := ⟨w.heap.size, k * 8 + 5, none⟩) (by simp only; omega) _).set (p := ⟨w.heap.size, k * 8 + 6, none⟩) (by simp only; omega) _).set (p := ⟨w.heap.size, k * 8 + 7, none⟩) (by simp only; omega) _)
      case measure => simp [intOf]; omega
    · obtain rfl : k = len := by omega
      clear hT hB
      go_wp2_with fail
      go_ret
      exact ⟨⟨us, rfl, HT.out, HL.out⟩, HB.out⟩
end Go.Proofs.Ytmmigbkilbfheaa.V
