/-
  Contract: the iterator, handed plain.Points' function.
-/
import Derived.Test.YtmefgejggpimeaaPtPlain1
import Derived.Test.YtmefgejggpimeaaPtAllP
namespace Go.Proofs.Ytmefgejggpimeaa.V
open Go.RowKit Go.Shelf
set_option linter.unusedVariables false

set_option maxRecDepth 100000 in
set_option maxHeartbeats 4000000 in
theorem through1_calls (B : Nat) (ba : Option Addr) (bl bc : Nat) (box : List Int) (ra : Option Addr) (rl rc : Nat) (rs : List (List Int × Int)) (ho : PtOk box rs) (okb nob kb lb : Nat) (J : List (List Int) → World → Prop) (Jx : World → Prop)
    (hJG : ∀ pre A, J pre A → PtGood A B ba bl bc box ra rl rc rs) (hJB : ∀ pre A A', J pre A → Below A.heap.size A A' → J pre A') (W : World)
    (hY : ∀ pre x post gx W1, pts box rs = pre ++ x :: post → J pre W1 → Told W.heap.size gx bl x W1 → Calls Try.prog 33 #[.slice (some ⟨gx, 0, none⟩) bl bl, .pointer (some ⟨okb, 0, none⟩), .pointer (some ⟨nob, 0, none⟩), .pointer (some ⟨kb, 0, none⟩), .pointer (some ⟨lb, 0, none⟩)] W1 fun e W' => ((e = .returned (.bool true) ∧ J (pre ++ [x]) W') ∨ (e = .returned (.bool false) ∧ Jx W')) ∧ W1.heap.size ≤ W'.heap.size)
    (h0 : J [] W) :
    Calls Try.prog 39 #[.func (.func 33) #[] #[.pointer (some ⟨okb, 0, none⟩), .pointer (some ⟨nob, 0, none⟩), .pointer (some ⟨kb, 0, none⟩), .pointer (some ⟨lb, 0, none⟩)], .pointer (some ⟨B, 0, none⟩)] W fun e W' => (∃ v, e = .returned v) ∧ (J (pts box rs) W' ∨ Jx W') := by
  have hG1 := hJG _ _ h0
  obtain ⟨c0, c1⟩ := hG1.here.cells
  have zB := hG1.here.lt
  have hf := fun w => pt_func_nil (P := Try.prog) w _ _ _ _ Try.underlying59 (.func 33) #[] #[.pointer (some ⟨okb, 0, none⟩), .pointer (some ⟨nob, 0, none⟩), .pointer (some ⟨kb, 0, none⟩), .pointer (some ⟨lb, 0, none⟩)]
  obtain ⟨N, hN⟩ : ∃ N : Nat, prod box = (N : Int) := ⟨(prod box).toNat, by have := ho.size.2.2.2; omega⟩
  have hNs : N ≤ 4096 := by have := ho.size.1; omega
  have HNN : Hid ((prod box).toNat = N) := by rw [Hid, hN]; simp
  have HSN : Hid (sizeN box = (N : Int)) := by rw [Hid, ho.size.2.2.1, hN]
  have HO := hide ho
  have HG1 := hide hG1
  have HY := hide hY
  have H0 := hide h0
  have HJG := hide hJG
  have HJB := hide hJB
  clear hG1 ho hY h0 hJG hJB hN
  go_enter Try.func39, Try.ntmps39
  go_wp2_with (go_at_call 40; refine (size_any _ _ _ box _ HG1.out.box).mono ?_; rintro e w' ⟨rfl, hw'⟩; obtain rfl := hw'.symm; rw [HSN.out])
  go_loopw [17] (fun i wr => ∃ k : Nat, k ≤ N ∧ i = .int .i64 k ∧ J (upto box rs k) wr ∧ W.heap.size ≤ wr.heap.size) (fun i _ => N - (intOf i).toNat)
  case atStart => exact ⟨0, Nat.zero_le _, rfl, H0.out, Nat.le_refl _⟩
  case round =>
    obtain ⟨k, hk, rfl, hJs, hsz⟩ := hrel
    have hGr := HJG.out _ _ hJs
    have HJS := hide hJs
    have HGR := hide hGr
    have HSZ := hide hsz
    clear hJs hsz c0 c1
    by_cases hlt : k < N
    · obtain ⟨p0, p1⟩ := hGr.here.cells
      have zBr := hGr.here.lt
      clear hGr
      go_wp2_with fail
      refine (callsIn_wide.1 (index_row ba bl bc box (k : Int) wr HGR.out.box HO.out.size.2.1 (by omega) (by rw [HSN.out]; omega))).mono ?_
      rintro e w2 ⟨⟨g, rfl, q1, q2, q3⟩, q4⟩
      have G2 := HGR.out.below q4
      obtain ⟨p0, p1⟩ := G2.here.cells
      have hkN : k < (prod box).toNat := by rw [HNN.out]; exact hlt
      have hbd := index_bd HO.out hkN
      have T2 : Told W.heap.size g bl (indexV box k) w2 := ⟨by have := HSZ.out; omega, q3.congr (fun j hj => by rw [indexV_getD box k j (by rw [HGR.out.box.1]; exact hj)]), by rw [hbd.2, HGR.out.box.1], by have := HO.out.rank; have := HGR.out.box.1; omega, hbd.1⟩
      have J2 := HJB.out _ _ _ HJS.out q4
      have A2 := above_any ra rl rc rs (some ⟨g, 0, none⟩) bl bl (indexV box k) w2 G2.rows T2.ints (fits_of HO.out hkN)
      have zB2 := G2.here.lt
      have HT2 := hide T2
      have HJ2 := hide J2
      have HA2 := hide A2
      have HSZ2 : Hid (W.heap.size ≤ w2.heap.size) := Nat.le_trans HSZ.out q4.size
      have HKN := hide hkN
      clear q1 q2 q3 q4 G2 T2 J2 A2 hkN hbd
      cases ha : aboveB rs (indexV box k) with
      | false =>
        have HAB := hide ha
        clear ha
        go_wp2_with (go_at_call 42; refine HA2.out.mono ?_; rintro e w3 ⟨rfl, hb⟩; rw [HAB.out]; have HB3 := hide hb; clear hb)
        go_roundw
        case rel => exact ⟨k + 1, by omega, by go_num, by rw [upto_succ, if_neg (by rw [HAB.out]; simp), List.append_nil]; exact HJB.out _ _ _ HJ2.out HB3.out, Nat.le_trans HSZ2.out HB3.out.size⟩
        case measure => simp [intOf]; omega
      | true =>
        have HAB := hide ha
        clear ha
        go_wp2_with (go_at_call 42; refine HA2.out.mono ?_; rintro e w3 ⟨rfl, hb⟩; rw [HAB.out]; have HB3 := hide hb; clear hb)
        obtain ⟨post, hpost⟩ := upto_here HKN.out HAB.out
        refine (HY.out (upto box rs k) (indexV box k) post g w3 hpost (HJB.out _ _ _ HJ2.out HB3.out) (HT2.out.below HB3.out)).mono ?_
        rintro e w4 ⟨⟨rfl, j4⟩ | ⟨rfl, jx4⟩, hs4⟩
        · have HJ4 := hide j4
          have HS4 := hide hs4
          clear j4 hs4 hpost
          go_wp2_with fail
          go_roundw
          case rel => exact ⟨k + 1, by omega, by go_num, by rw [upto_succ, if_pos HAB.out]; exact HJ4.out, Nat.le_trans (Nat.le_trans HSZ2.out HB3.out.size) HS4.out⟩
          case measure => simp [intOf]; omega
        · have HJ4 := hide jx4
          clear jx4 hs4 hpost
          go_wp2_with fail
          refine bodyPost_ret (results_none rfl _ _ _) rfl ?_
          exact ⟨⟨_, rfl⟩, .inr HJ4.out⟩
    · obtain rfl : k = N := by omega
      go_wp2_with fail
      refine bodyPost_end (results_none rfl _ _ _) rfl ?_
      refine ⟨⟨_, rfl⟩, .inl ?_⟩
      have := HJS.out
      rw [← HNN.out] at this
      exact this
end Go.Proofs.Ytmefgejggpimeaa.V
