/-
  Contracts: the document's All, Count, Nth, same, Ahead.
-/
import Derived.Test.YtmefgejggpimeaaPtBox
import Derived.Test.YtmefgejggpimeaaPtAhead
namespace Go.Proofs.Ytmefgejggpimeaa.V
open Go.RowKit
set_option linter.unusedVariables false

theorem aboveB_take (rs : List (List Int × Int)) (xs : List Int) (k : Nat) (h : k < rs.length) : aboveB (rs.take (k + 1)) xs = (aboveB (rs.take k) xs && decide (0 ≤ worthV (rs[k]?.getD ([], 0)) xs)) := by
  unfold aboveB
  rw [take_succR rs k h, List.all_append]
  simp
theorem filter_snoc (L : List (List Int)) (rs : List (List Int × Int)) (k : Nat) (h : k < L.length) : (L.take (k + 1)).filter (aboveB rs) = (L.take k).filter (aboveB rs) ++ (if aboveB rs (L[k]?.getD []) = true then [L[k]?.getD []] else []) := by
  rw [take_succL L k h, List.filter_append]
  congr 1
  simp only [List.filter_cons, List.filter_nil]
theorem rAll_len (L : List (List Int)) (rs : List (List Int × Int)) (k : Nat) : ((L.take k).filter (aboveB rs)).length ≤ k := by
  have h1 := List.length_filter_le (aboveB rs) (L.take k)
  have h2 : (L.take k).length ≤ k := by rw [List.length_take]; omega
  omega

set_option maxRecDepth 100000 in
set_option maxHeartbeats 4000000 in
theorem rAll_ok (ba : Option Addr) (bl bc : Nat) (box : List Int) (ra : Option Addr) (rl rc : Nat) (rs : List (List Int × Int)) (w : World) (h : Lst w ba bl bc box) (hr : Rws w ra rl rs) (ho : PtOk box rs) :
    Calls Try.prog 21 #[.agg #[.slice ba bl bc, .slice ra rl rc]] w fun e w' => (∃ A c, e = .returned (.slice A (pts box rs).length c) ∧ LL w' A (pts box rs).length (pts box rs)) ∧ Below w.heap.size w w' := by
  have B1 : Below w.heap.size w (w.alloc (.cells #[.slice ba bl bc, .slice ra rl rc] 25)) := bl_new _
  have hbl : bl ≤ 4 := by have := h.1.1; have := ho.rank; omega
  have HBX := hide (rbox_any bl ba bc box _ (h.below B1) hbl ho.dims (box_small ho))
  have HP := hide (PtAt.new w ba bl bc ra rl rc)
  have HB := hide B1
  have HR := hide hr
  have HO := hide ho
  have hrl : rl ≤ 8 := by have := hr.1; have := ho.many; omega
  have HRL := hide hr.1
  have HBL := hide h.1.1
  clear h hr B1 ho
  go_enter Try.func21, Try.ntmps21
  go_wp2_with fail
  refine HBX.out.mono ?_
  rintro e w1 ⟨⟨A, c, rfl, hLL⟩, hb1⟩
  obtain ⟨N, hN⟩ : ∃ N, N = (BL box).length := ⟨_, rfl⟩
  have hN4 : N ≤ 4096 := by rw [hN, BL_len]; have := HO.out.size.1; omega
  rw [← hN] at hLL
  rw [← hN]
  have HN := hide hN
  have HLS := hide hLL
  have HB1 := hide (bl_on HB.out hb1)
  have P1 := HP.out.below hb1
  have HP1 := hide P1
  obtain ⟨p0, p1⟩ := P1.cells
  have zP := P1.lt
  clear hLL hb1 hN P1
  go_wp2_with fail
  go_loopw [3, 13] (fun out i wr => ∃ k : Nat, k ≤ N ∧ i = .int .i64 k ∧ OutL wr w1.heap.size out (((BL box).take k).filter (aboveB rs)) ∧ Below w1.heap.size w1 wr) (fun _ i _ => N - (intOf i).toNat)
  case atStart => exact ⟨0, Nat.zero_le _, rfl, by simpa using OutL.nil _ _, Below.refl _ _⟩
  case round =>
    obtain ⟨k, hk, rfl, hout, hB⟩ := hrel
    have HOUT := hide hout
    have HBr := hide hB
    clear hout hB p0 p1
    by_cases hlt : k < N
    · have hkl : k < (BL box).length := by rw [← HN.out]; exact hlt
      obtain ⟨xb, xo, rfl, hat⟩ := HLS.out.at (by omega)
      obtain ⟨xa, xl, xc, x0, x2, x3⟩ := hat k hlt
      have x1 := (HBr.out.cell (p := ⟨xb, xo + k, none⟩) (lt_of_cell x0)).trans x0
      have hmem : (BL box)[k]?.getD [] ∈ BL box := by simp [hkl]
      have HT := hide (filter_snoc (BL box) rs k hkl)
      obtain ⟨x, hx⟩ : ∃ x, x = (BL box)[k]?.getD [] := ⟨_, rfl⟩
      rw [← hx] at x2 hmem HT
      have hxl := BL_mem HO.out.dims hmem
      have z1 := lt_of_cell x1
      simp only at z1
      have HX := hide x2
      have HXF := hide x3
      have HXL := hide hxl
      have hxl2 : xl ≤ 4 := by have := x2.1.1; have := HBL.out; omega
      obtain ⟨p0, p1⟩ := (HP1.out.below HBr.out).cells
      have zP' := (HP1.out.below HBr.out).lt
      clear hat x0 x2 x3 hmem hx hxl hkl
      go_wp2_with fail
      obtain ⟨wo, hwo⟩ : ∃ wo, wo = wr := ⟨_, rfl⟩
      subst hwo
      go_loopw [6, 20] (fun ok i wr' => ∃ j : Nat, j ≤ rl ∧ i = .int .i64 j ∧ ok = .bool (aboveB (rs.take j) x) ∧ Below wo.heap.size wo wr') (fun _ i _ => rl - (intOf i).toNat)
      case atStart => exact ⟨0, Nat.zero_le _, rfl, rfl, Below.refl _ _⟩
      case round =>
        clear p0 p1 x1 z1
        obtain ⟨j, hj, rfl, rfl, hB2⟩ := hrel
        have HB2 := hide hB2
        have hsz := hB2.size
        clear hB2
        by_cases hlt2 : j < rl
        · have hjl : j < rs.length := by rw [HRL.out]; exact hlt2
          have HBa := hide (bl_on (bl_on HB1.out HBr.out) HB2.out)
          obtain ⟨rb, ro, rfl, hrat⟩ := (HR.out.below HBa.out).at (by omega)
          obtain ⟨a, l, c', k1, k2, k3, k4, k5⟩ := hrat j hlt2
          have z1 := lt_of_cell k1
          have z2 := lt_of_cell k2
          simp only at z1 z2
          have HAB := hide (aboveB_take rs x j hjl)
          have hrow := HO.out.rows _ (mem_getR rs j hjl)
          obtain ⟨q, hq⟩ : ∃ q, q = rs[j]?.getD ([], 0) := ⟨_, rfl⟩
          rw [← hq] at k2 k3 k5 HAB hrow
          obtain ⟨cs, K⟩ := q
          simp only at k2 k3 k5 hrow
          have B3 : Below wr.heap.size wr (wr.alloc (.cells #[.slice a l c', .int .i64 K] 56)) := bl_new _
          have hll : l = xl := by have := k3.1; have := HX.out.1.1; have := HXL.out.1; omega
          have HAT := hide (rAt_any a l c' cs K xa xl xc x (wr.alloc (.cells #[.slice a l c', .int .i64 K] 56)) (k3.below B3) (((HX.out.1.below HBr.out).below HB2.out).below B3) hll (by omega) hrow.2.1 hrow.2.2 HXL.out.2)
          have HB3 := hide B3
          clear hrat k3 k4 k5 hq hrow B3 hjl hll
          cases hab : aboveB (rs.take j) x with
          | true =>
            rw [hab] at HAB
            clear hab
            go_wp2_with (go_at_call 35; refine HAT.out.mono ?_; rintro e w5 ⟨rfl, hb⟩; have HB6 := hide (bl_on HB3.out hb); have HB5 := hide (bl_on HB2.out HB6.out); clear hb)
            go_roundw
            case rel => exact ⟨j + 1, by omega, by go_num, by rw [HAB.out, Bool.true_and], HB5.out⟩
            case measure => simp [intOf]; omega
          | false =>
            rw [hab] at HAB
            clear hab
            go_wp2_with fail
            go_roundw
            case rel => exact ⟨j + 1, by omega, by go_num, by rw [HAB.out, Bool.false_and], bl_on HB2.out HB3.out⟩
            case measure => simp [intOf]; omega
        · obtain rfl : j = rl := by omega
          have hall : rs.take j = rs := List.take_of_length_le (by rw [HRL.out]; exact Nat.le_refl _)
          rw [hall]
          clear hall
          have hwz := HBr.out.size
          have HFL := hide (rAll_len (BL box) rs k)
          cases hab : aboveB rs x with
          | true =>
            rw [hab] at HT
            clear hab
            have HOw := hide (HOUT.out.below HB2.out)
            go_wp2_with (at_builtin; refine append_lists rfl (.tmp 33) (.tmp 35) rfl w1.heap.size _ (((BL box).take k).filter (aboveB rs)) rfl xa xl xc x HOw.out ((HX.out.below HBr.out).below HB2.out) HXF.out rfl (by have := HFL.out; omega) (by omega) ?_; intro v4 w4 hout4 hb4; have HO4 := hide hout4; have HB4 := hide hb4; clear hout4 hb4)
            go_roundw
            case rel =>
              refine ⟨k + 1, by omega, by go_num, ?_, HBr.out.trans ((HB2.out.mono hwz).trans HB4.out)⟩
              rw [HT.out]
              simpa using HO4.out
            case measure => simp [intOf]; omega
          | false =>
            rw [hab] at HT
            clear hab
            go_wp2_with fail
            go_roundw
            case rel =>
              refine ⟨k + 1, by omega, by go_num, ?_, HBr.out.trans (HB2.out.mono hwz)⟩
              rw [HT.out]
              simpa using HOUT.out.below HB2.out
            case measure => simp [intOf]; omega
    · obtain rfl : k = N := by omega
      go_wp2_with fail
      go_ret
      have := HOUT.out
      rw [HN.out, List.take_length, ← BL_filter] at this
      obtain ⟨A', c', e, hl, _⟩ := this.ll
      subst e
      exact ⟨⟨A', c', rfl, hl⟩, bl_on HB1.out HBr.out⟩
end Go.Proofs.Ytmefgejggpimeaa.V
