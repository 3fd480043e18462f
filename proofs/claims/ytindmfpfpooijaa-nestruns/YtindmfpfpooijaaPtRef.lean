/-
  Contracts: the document's Row, Wrong, At.
-/
import Derived.Test.YtindmfpfpooijaaPtLists
import Derived.BigRegion
import Derived.BigQuiet
namespace Go.Proofs.Ytindmfpfpooijaa.V
open Go.RowKit
set_option linter.unusedVariables false

theorem any_far_cons (K : Int) (cs : List Int) : (K :: cs).any ptFar = (ptFar K || cs.any ptFar) := rfl
set_option maxHeartbeats 2000000 in
theorem rRow_any (a : Option Addr) (l c : Nat) (cs : List Int) (K : Int) (many : Nat) (w : World) (h : Lst w a l c cs) (hK : -9223372036854775808 ≤ K ∧ K ≤ 9223372036854775807) (h4 : many ≤ 4) :
    Calls Try.prog 35 #[.agg #[.slice a l c, .int .i64 K], .int .i64 many] w fun e w' => e = .returned (.int .i64 (rowE (cs, K) many)) ∧ Below w.heap.size w w' := by
  have hm := h.1.2.1
  by_cases c1 : l = many
  · subst c1
    have e1 : rowE (cs, K) l = if (K :: cs).any ptFar = true then 4 else 0 := by unfold rowE; rw [if_neg (by simp [h.1.1])]; rfl
    have E1 := hide e1
    clear e1
    have B1 : Below w.heap.size w ((w.alloc (.cells #[.slice a l c, .int .i64 K] 41)).alloc (.cells #[.int .i64 K] 3)) := bl_on (bl_new _) (bl_new _)
    have O1 := own_one (w.alloc (.cells #[.slice a l c, .int .i64 K] 41)) w.heap.size 3 (.int .i64 K) (by simp)
    rw [World.size_alloc] at O1
    have HB := hide B1
    have HO := hide O1
    have H := hide (h.below B1)
    have HLC := hide h.1.1
    have HKB := hide (show ∀ x ∈ K :: cs, -9223372036854775808 ≤ x ∧ x ≤ 9223372036854775807 from fun x hx => by
      rcases List.mem_cons.1 hx with rfl | hx
      · exact hK
      · exact h.1.2.2.1 x hx)
    clear h B1 O1
    go_enter Try.func35, Try.ntmps35
    go_wp2_with (at_builtin; refine append_list rfl _ _ rfl w.heap.size _ 1 [.int .i64 K] rfl HO.out a l c cs rfl H.out (by omega) (by simp; omega) ?_; intro v' w2 hown hgrow; obtain ⟨X, c2, rfl, hL2, _⟩ := lst_of_own (xs := K :: cs) hown (by simp [HLC.out]; omega) (by omega) HKB.out; have HL2 := hide hL2; have HB2 := hide (HB.out.grown hgrow (by simp; omega) (fun j e => (HO.out.lt j e).1)); clear hown hgrow hL2)
    go_loop [19] (fun i => ∃ k : Nat, k ≤ 1 + l ∧ i = .int .i64 k ∧ ((K :: cs).take k).any ptFar = false) (fun i => 1 + l - (intOf i).toNat)
    case atStart => exact ⟨0, Nat.zero_le _, rfl, by simp⟩
    case round =>
      obtain ⟨k, hk, rfl, hn⟩ := hrel
      have HN := hide hn
      clear hn
      by_cases hlt : k < 1 + l
      · obtain ⟨b, off, rfl, hb, hc⟩ := HL2.out.1.at (by omega)
        have hck := hc k hlt
        have HKL : Hid (k < (K :: cs).length) := by rw [Hid, HL2.out.1.1]; exact hlt
        obtain ⟨q, hq⟩ : ∃ q, q = (K :: cs)[k]?.getD 0 := ⟨_, rfl⟩
        rw [← hq] at hck
        have HQ := hide hq
        clear hc hq
        by_cases h1 : 1048576 < q
        · go_wp2
          go_ret
          rw [E1.out, any_of_getD (K :: cs) k HKL.out (by rw [← HQ.out]; simp [ptFar, h1])]
          exact ⟨rfl, HB2.out⟩
        · by_cases h2 : q < -1048576
          · go_wp2
            go_ret
            rw [E1.out, any_of_getD (K :: cs) k HKL.out (by rw [← HQ.out]; simp [ptFar, h2])]
            exact ⟨rfl, HB2.out⟩
          · go_wp2
            go_round
            case rel => exact ⟨k + 1, by omega, by go_num, not_mem_take_succ (K :: cs) k HKL.out HN.out (by rw [← HQ.out]; simp [ptFar]; omega)⟩
            case measure => simp [intOf]; omega
      · go_wp2
        go_ret
        have := HN.out
        rw [take_all HL2.out.1.1 hlt] at this
        rw [E1.out, this]
        exact ⟨rfl, HB2.out⟩
  · have e1 : rowE (cs, K) many = 6 := by unfold rowE; rw [if_pos (by rw [h.1.1]; exact c1)]
    rw [e1]
    have c2 : ((l : Int) != (many : Int)) = true := by simp; omega
    have HB := hide (bl_new (w := w) (.cells #[.slice a l c, .int .i64 K] 41))
    clear e1 h c1
    go_enter Try.func35, Try.ntmps35
    go_wp2
    go_ret
    exact ⟨rfl, HB.out⟩

set_option maxHeartbeats 4000000 in
theorem rptWrong_any (ba : Option Addr) (bl bc : Nat) (box : List Int) (ra : Option Addr) (rl rc : Nat) (rs : List (List Int × Int)) (w : World) (h : Ints w ba bl box) (hr : Rws w ra rl rs) :
    Calls Try.prog 20 #[.agg #[.slice ba bl bc, .slice ra rl rc]] w fun e w' => e = .returned (.int .i64 (ptE box rs)) ∧ Below w.heap.size w w' := by
  have hm := h.2.1
  have hm2 := hr.2.1
  have B1 : Below w.heap.size w (w.alloc (.cells #[.slice ba bl bc, .slice ra rl rc] 39)) := bl_new _
  have H := hide (h.below B1)
  have HR := hide hr
  have HB := hide B1
  have HL1 := hide h.1
  have HL2 := hide hr.1
  have HP0 := hide (PtAt.new w ba bl bc ra rl rc)
  by_cases c0 : 4 < bl
  · have e1 : ptE box rs = 3 := by
      have : boxE box = 3 := by unfold boxE; rw [if_pos (by rw [h.1]; exact c0)]
      unfold ptE; rw [if_pos (by rw [this]; decide), this]
    rw [e1]
    clear h hr e1 B1
    go_enter Try.func20, Try.ntmps20
    go_wp2
    go_ret
    exact ⟨rfl, HB.out⟩
  have hbl : bl ≤ 4 := by omega
  have eb : boxE box = if box.any badDim = true then 4 else if 4096 < prod box then 5 else 0 := by unfold boxE; rw [if_neg (by rw [h.1]; exact c0)]
  have EB := hide eb
  clear h hr B1 eb c0
  go_enter Try.func20, Try.ntmps20
  go_wp2
  go_loop [3, 16] (fun s i => ∃ k : Nat, k ≤ bl ∧ i = .int .i64 k ∧ s = .int .i64 (prod (box.take k)) ∧ (box.take k).any badDim = false) (fun _ i => bl - (intOf i).toNat)
  case atStart => exact ⟨0, Nat.zero_le _, rfl, by simp [prod], by simp⟩
  case round =>
    obtain ⟨k, hk, rfl, rfl, hn⟩ := hrel
    have HN := hide hn
    clear hn
    by_cases hlt : k < bl
    · obtain ⟨b, off, rfl, hb, hc⟩ := H.out.at (by omega)
      have hck := hc k hlt
      have hkl : k < box.length := by rw [HL1.out]; exact hlt
      have HKL := hide hkl
      obtain ⟨q, hq⟩ : ∃ q, q = box[k]?.getD 0 := ⟨_, rfl⟩
      rw [← hq] at hck
      have HQ := hide hq
      clear hc hq hkl
      by_cases h1 : q < 0
      · have e1 : ptE box rs = 4 := by
          have : boxE box = 4 := by rw [EB.out, if_pos (any_of_getD box k HKL.out (by rw [← HQ.out]; simp [badDim, h1]))]
          unfold ptE; rw [if_pos (by rw [this]; decide), this]
        have E1 := hide e1
        clear e1
        go_wp2
        go_ret
        rw [E1.out]
        exact ⟨rfl, HB.out⟩
      · by_cases h2 : 4096 < q
        · have e1 : ptE box rs = 4 := by
            have : boxE box = 4 := by rw [EB.out, if_pos (any_of_getD box k HKL.out (by rw [← HQ.out]; simp [badDim, h2]))]
            unfold ptE; rw [if_pos (by rw [this]; decide), this]
          have E1 := hide e1
          clear e1
          go_wp2
          go_ret
          rw [E1.out]
          exact ⟨rfl, HB.out⟩
        · have HP := hide (prod_take_succ box k HKL.out)
          have hd : ∀ x ∈ box.take (k + 1), 0 ≤ x ∧ x ≤ 4096 := by
            intro x hx
            rw [take_succ_getD box k HKL.out, List.mem_append] at hx
            rcases hx with hx | hx
            · have := List.any_eq_false.1 HN.out x hx
              simp [badDim] at this
              omega
            · have : x = q := by rw [HQ.out]; simpa using hx
              omega
          have hq := prod_take_bd (box.take (k + 1)) hd (k + 1)
          rw [List.take_take, Nat.min_self, HP.out, ← HQ.out] at hq
          have q3 : (4096 : Int) ^ (k + 1) ≤ 281474976710656 := by
            have : k + 1 = 1 ∨ k + 1 = 2 ∨ k + 1 = 3 ∨ k + 1 = 4 := by omega
            rcases this with e | e | e | e <;> rw [e] <;> decide
          have q4 : prod (box.take k) * q ≤ 281474976710656 := Int.le_trans hq.2 q3
          have q5 := hq.1
          have hn' := hide (not_mem_take_succ box k HKL.out HN.out (by rw [← HQ.out]; simp [badDim]; omega))
          clear hd hq q3
          go_wp2
          go_round
          case rel => exact ⟨k + 1, by omega, by go_num, by rw [HP.out, ← HQ.out], hn'.out⟩
          case measure => simp [intOf]; omega
    · obtain rfl : k = bl := by omega
      have hall : box.take k = box := take_all HL1.out hlt
      rw [hall]
      have hna : box.any badDim = false := by have := HN.out; rwa [hall] at this
      have eb : boxE box = if 4096 < prod box then 5 else 0 := by rw [EB.out, if_neg (by simp [hna])]
      have EB2 := hide eb
      clear hall hna eb hlt HN
      by_cases c5 : 4096 < prod box
      · have e1 : ptE box rs = 5 := by
          have : boxE box = 5 := by rw [EB2.out, if_pos c5]
          unfold ptE; rw [if_pos (by rw [this]; decide), this]
        have E1 := hide e1
        clear e1
        go_wp2
        go_ret
        rw [E1.out]
        exact ⟨rfl, HB.out⟩
      · have c1 : boxE box = 0 := by rw [EB2.out, if_neg c5]
        by_cases c3 : 8 < rl
        · have e1 : ptE box rs = 2 := by unfold ptE; rw [if_neg (by rw [c1]; decide), if_pos (by rw [HL2.out]; exact c3)]
          have E1 := hide e1
          clear e1 c1
          go_wp2
          go_ret
          rw [E1.out]
          exact ⟨rfl, HB.out⟩
        · have e1 : ptE box rs = rowsE rs k := by unfold ptE; rw [if_neg (by rw [c1]; decide), if_neg (by rw [HL2.out]; exact c3), HL1.out]
          have E1 := hide e1
          clear e1 c1
          go_wp2
          go_loopw [39] (fun i wr => ∃ j : Nat, j ≤ rl ∧ i = .int .i64 j ∧ rowsE (rs.take j) k = 0 ∧ Below w.heap.size w wr ∧ PtAt wr w.heap.size ba k bc ra rl rc) (fun i _ => rl - (intOf i).toNat)
          case atStart => exact ⟨0, Nat.zero_le _, rfl, by simp [rowsE], HB.out, HP0.out⟩
          case round =>
            obtain ⟨j, hj, rfl, hn, hB, hP⟩ := hrel
            have HN := hide hn
            have HBr := hide hB
            have HP := hide hP
            clear hn hB
            by_cases hlt : j < rl
            · have hkl : j < rs.length := by rw [HL2.out]; exact hlt
              obtain ⟨b, off, rfl, hat⟩ := (HR.out.below HBr.out).at (by omega)
              obtain ⟨a, l, c, k1, k2, k3, k4, k5⟩ := hat j hlt
              have z1 := lt_of_cell k1
              have z2 := lt_of_cell k2
              simp only at z1 z2
              obtain ⟨q, hq⟩ : ∃ q, q = rs[j]?.getD ([], 0) := ⟨_, rfl⟩
              rw [← hq] at k2 k3 k5
              have HQ := hide hq
              obtain ⟨cs, K⟩ := q
              simp only at k2 k3 k5
              have B2 : Below wr.heap.size wr (wr.alloc (.cells #[.slice a l c, .int .i64 K] 41)) := bl_new _
              obtain ⟨p0, p1⟩ := (hP.below B2).cells
              obtain ⟨p2, p3⟩ := hP.cells
              have pz := hP.lt
              have HC := hide (rRow_any a l c cs K k (wr.alloc (.cells #[.slice a l c, .int .i64 K] 41)) (Lst.below ⟨k3, k4⟩ B2) k5 hbl)
              have HKL := hide hkl
              have HB2 := hide B2
              clear hat k3 k4 k5 hq hkl B2 hP
              go_wp2_with (go_at_call 35; refine HC.out.mono ?_; rintro e w2 ⟨rfl, hb⟩; have HB3 := hide (bl_on HB2.out hb); clear hb)
              · have hx : rowE (cs, K) k ≠ 0 := by simpa using (by assumption : (rowE (cs, K) k != 0) = true)
                go_ret
                refine ⟨?_, bl_on HBr.out HB3.out⟩
                rw [E1.out, rowsE_here rs k j HKL.out HN.out (by rw [← HQ.out]; exact hx), ← HQ.out]; rfl
              · have hx : rowE (cs, K) k = 0 := by simpa using (by assumption : (rowE (cs, K) k != 0) = false)
                go_roundw
                case rel => exact ⟨j + 1, by omega, by go_num, rowsE_take rs k j HKL.out HN.out (by rw [← HQ.out]; exact hx), bl_on HBr.out HB3.out, HP.out.below HB3.out⟩
                case measure => simp [intOf]; omega
            · go_wp2
              go_ret
              have := HN.out
              rw [List.take_of_length_le (by rw [HL2.out]; omega)] at this
              exact ⟨by rw [E1.out, this]; rfl, HBr.out⟩
set_option maxHeartbeats 1000000 in
theorem rAt_any (a : Option Addr) (l c : Nat) (cs : List Int) (K : Int) (xa : Option Addr) (xl xc : Nat) (xs : List Int) (w : World) (h : Ints w a l cs) (hx : Ints w xa xl xs) (hl : l = xl) (h4 : l ≤ 4)
    (hK : -1048576 ≤ K ∧ K ≤ 1048576) (hc : ∀ c ∈ cs, -1048576 ≤ c ∧ c ≤ 1048576) (hb : ∀ x ∈ xs, 0 ≤ x ∧ x ≤ 4096) :
    Calls Try.prog 48 #[.agg #[.slice a l c, .int .i64 K], .slice xa xl xc] w fun e w' => e = .returned (.int .i64 (worthV (cs, K) xs)) ∧ Below w.heap.size w w' := by
  have B1 : Below w.heap.size w (w.alloc (.cells #[.slice a l c, .int .i64 K] 41)) := bl_new _
  have H := hide (h.below B1)
  have HX := hide (hx.below B1)
  have HL1 := hide h.1
  have HL2 := hide hx.1
  have HC := hide hc
  have HB := hide hb
  have HB1 := hide B1
  subst hl
  clear h hx hc hb B1
  go_enter Try.func48, Try.ntmps48
  go_wp2
  go_loopw [5, 12] (fun s i wr => ∃ k : Nat, k ≤ l ∧ i = .int .i64 k ∧ (∃ n, wr = (w.alloc (.cells #[.slice a l c, .int .i64 K] 41)).drewN n) ∧ s = .int .i64 (K + dotV (cs.take k) (xs.take k))) (fun _ i _ => l - (intOf i).toNat)
  case atStart => exact ⟨0, Nat.zero_le _, rfl, ⟨0, rfl⟩, by simp [dotV]⟩
  case round =>
    obtain ⟨k, hk, rfl, ⟨nn, rfl⟩, rfl⟩ := hrel
    by_cases hlt : k < l
    · obtain ⟨b, off, rfl, hb, hcc⟩ := H.out.at (by omega)
      obtain ⟨b', off', rfl, hb', hcc'⟩ := HX.out.at (by omega)
      have hck := hcc k hlt
      have hck' := hcc' k hlt
      have k1 : k < cs.length := by rw [HL1.out]; exact hlt
      have k2 : k < xs.length := by rw [HL2.out]; exact hlt
      have m1 := pt_mul_bd (HC.out _ (mem_getD cs k k1)) (HB.out _ (mem_getD xs k k2))
      have m2 := dotV_bd (cs.take k) (xs.take k) (fun c hc => HC.out c (List.mem_of_mem_take hc)) (fun x hx => HB.out x (List.mem_of_mem_take hx))
      have m3 : (cs.take k).length ≤ 4 := by rw [List.length_take]; omega
      have HD := hide (dotV_take cs xs k k1 k2)
      obtain ⟨S, hS⟩ : ∃ S, S = dotV (cs.take k) (xs.take k) := ⟨_, rfl⟩
      rw [← hS] at m2 ⊢
      have HS := hide hS
      have m4 : -17179869184 ≤ S ∧ S ≤ 17179869184 := by omega
      obtain ⟨x1, hx1⟩ : ∃ x, x = cs[k]?.getD 0 := ⟨_, rfl⟩
      obtain ⟨x2, hx2⟩ : ∃ x, x = xs[k]?.getD 0 := ⟨_, rfl⟩
      rw [← hx1] at hck m1
      rw [← hx2] at hck' m1
      have HX1 := hide hx1
      have HX2 := hide hx2
      have HM := hide (And.intro k1 k2)
      clear hcc hcc' k1 k2 m2 m3 hS hx1 hx2
      have cz := (Boxed.new w 3 (.int .i64 0)).lt
      go_wp2
      go_quiet (fail)
      go_wp2
      go_roundw
      case rel => exact ⟨k + 1, by omega, by go_num, ⟨_, rfl⟩, by rw [HD.out, ← HS.out, ← HX1.out, ← HX2.out]; go_num⟩
      case measure => simp [intOf]; omega
    · go_wp2
      go_ret
      refine ⟨?_, HB1.out.trans (below_drewN _ nn)⟩
      rw [take_all HL1.out hlt, take_all HL2.out hlt]
      rfl

end Go.Proofs.Ytindmfpfpooijaa.V
