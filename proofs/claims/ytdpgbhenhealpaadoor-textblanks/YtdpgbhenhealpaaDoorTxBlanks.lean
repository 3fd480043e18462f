/-
  The walk of TextBlanks.
-/
import Derived.Test.YtdpgbhenhealpaaDoorTxBlk
import Derived.Test.YtdpgbhenhealpaaDoorTxAlive
import Derived.Test.YtdpgbhenhealpaaDoorTxSameP
namespace Go.Proofs.YtdpgbhenhealpaaDoor.V
set_option maxRecDepth 20000
open Go.RowKit
set_option linter.unusedVariables false

/-- A slice value of begin A and length n holds n strings. -/
def Strs (w : World) (A : Option Addr) (n : Nat) : Prop :=
  n ≤ 9223372036854775807 ∧ (n = 0 ∨ ∃ b off, A = some ⟨b, off, none⟩ ∧ ∀ j, j < n → ∃ S, w.cell? ⟨b, off + j, none⟩ = some (.string S))
theorem tokO_len2 (s : ByteArray) : (tokO s).2.length ≤ 65536 := by
  unfold tokO
  by_cases h1 : 65536 < s.size
  · rw [if_pos h1]; exact Nat.zero_le _
  · rw [if_neg h1]
    by_cases h2 : (scanN (xsOf s) 0 []).1.1 = 0
    · rw [if_pos h2]
      have := scanN_len (xsOf s) _ 0 [] (Nat.le_refl _) (Nat.le_refl _) (Nat.zero_le _)
      rw [xsOf_length] at this
      show (scanN (xsOf s) 0 []).2.length ≤ 65536
      omega
    · rw [if_neg h2]; exact Nat.zero_le _

set_option maxRecDepth 100000 in
set_option maxHeartbeats 4000000 in
theorem blanks_early (s : ByteArray) (A1 : Option Addr) (n1 c1 : Nat) (w : World) (hmax : s.size ≤ 9223372036854775807) (hE : ErrAt w) (h2 : 2 < w.heap.size) (hc : (tokO s).1.1 ≠ 0 ∨ n1 = 0) :
    Calls Tryd.prog 3 #[.string s, .slice A1 n1 c1] w fun e w' => e = .returned (.bool true) ∧ Below w.heap.size w w' := by
  have HL := hide (alive_any w hE h2)
  have HT : Hid (∀ W, Below w.heap.size w W → Calls Tryd.prog 5 #[.string s] W (TokP s W)) := fun W hW => Tokens_any s W hmax (hE.below hW h2) (by have := hW.size; omega)
  unfold TokP at HT
  obtain ⟨O, hO⟩ : ∃ O, O = tokO s := ⟨_, rfl⟩
  rw [← hO] at HT hc
  clear hO hE h2
  obtain ⟨⟨T, K⟩, ts⟩ := O
  simp only at HT hc
  by_cases hT : T = 0
  · have hn : n1 = 0 := by rcases hc with h | h <;> omega
    subst hT
    subst hn
    clear hc
    go_enter Tryd.func3, Tryd.ntmps3
    go_wp2_with (first
      | (go_at_call 4; refine HL.out.mono ?_; rintro e w1 ⟨rfl, hB⟩; have HB1 := hide hB; clear hB HL)
      | (go_at_call 5; refine (HT.out _ HB1.out).mono ?_; rintro e w2 ⟨A, c, rfl, hA, hB⟩; have HB := hide (below_then HB1.out hB); clear hA hB HT HB1))
    go_ret
    exact ⟨rfl, HB.out.alloc HB.out.size _⟩
  · clear hc
    go_enter Tryd.func3, Tryd.ntmps3
    go_wp2_with (first
      | (go_at_call 4; refine HL.out.mono ?_; rintro e w1 ⟨rfl, hB⟩; have HB1 := hide hB; clear hB HL)
      | (go_at_call 5; refine (HT.out _ HB1.out).mono ?_; rintro e w2 ⟨A, c, rfl, hA, hB⟩; have HB := hide (below_then HB1.out hB); clear hA hB HT HB1))
    go_ret
    exact ⟨rfl, HB.out.alloc HB.out.size _⟩

set_option maxRecDepth 100000 in
set_option maxHeartbeats 4000000 in
theorem blanks_late (s : ByteArray) (A1 : Option Addr) (n1 c1 : Nat) (w : World) (hmax : s.size ≤ 9223372036854775807) (hE : ErrAt w) (h2 : 2 < w.heap.size) (hs : Strs w A1 n1) (ht0 : (tokO s).1.1 = 0) (hn0 : n1 ≠ 0) :
    Calls Tryd.prog 3 #[.string s, .slice A1 n1 c1] w fun e w' => e = .returned (.bool true) ∧ Below w.heap.size w w' := by
  have HL := hide (alive_any w hE h2)
  have HT : Hid (∀ W, Below w.heap.size w W → Calls Tryd.prog 5 #[.string s] W (TokP s W)) := fun W hW => Tokens_any s W hmax (hE.below hW h2) (by have := hW.size; omega)
  have HR1 : Hid (∀ W, Below w.heap.size w W → Calls Tryd.prog 6 #[.string s] W (ReadP s W)) := fun W hW => Read_any s W hmax (hE.below hW h2) (by have := hW.size; omega)
  have HR2 : Hid (∀ t, t.size ≤ 65536 → ∀ W, Below w.heap.size w W → Calls Tryd.prog 6 #[.string t] W (ReadP t W)) := fun t ht W hW => Read_any t W (by omega) (hE.below hW h2) (by have := hW.size; omega)
  have HS : Hid (∀ t, t.size ≤ 65536 → Made (tokO s).2 (tokO s).2.length t → (readO t).1.1 = (readO s).1.1 ∧ (readO t).2 = (readO s).2) := fun t ht hm => read_same ht0 hm ht
  have HG := hide (tok_good ht0)
  have HN := hide (tokO_len2 s)
  have HO := hide (read_bound s)
  unfold TokP at HT
  unfold ReadP at HR1 HR2
  obtain ⟨RO, hRO⟩ : ∃ RO, RO = readO s := ⟨_, rfl⟩
  rw [← hRO] at HR1 HS HO
  clear hRO
  obtain ⟨⟨RT, RK⟩, fs⟩ := RO
  obtain ⟨O, hO⟩ : ∃ O, O = tokO s := ⟨_, rfl⟩
  rw [← hO] at HT HS HG HN ht0
  clear hO hE h2
  obtain ⟨⟨T, K⟩, ts⟩ := O
  simp only at HT ht0 HR1 HS HG HN HO
  subst ht0
  obtain ⟨hn1, hs2⟩ := hs
  obtain ⟨gb, off, rfl, hgb⟩ := hs2.resolve_left hn0
  have HSB := hide hgb
  clear hs2 hgb
  obtain ⟨N, hN⟩ : ∃ N, N = ts.length := ⟨_, rfl⟩
  rw [← hN] at HN HT HS
  have HNN := hide hN
  clear hN
  have hNb := HN.out
  clear HN
  go_enter Tryd.func3, Tryd.ntmps3
  go_wp2_with (first
    | (go_at_call 4; refine HL.out.mono ?_; rintro e w1 ⟨rfl, hB⟩; have HB1 := hide hB; clear hB HL)
    | (go_at_call 5; refine (HT.out _ HB1.out).mono ?_; rintro e w2 ⟨A, c, rfl, hA, hB⟩; have HB := hide (below_then HB1.out hB); have HA := hide hA; clear hA hB HT HB1))
  have HF0 := hide (TwoAt.new 27 w2 (.int .i64 0) (.int .i64 (K : Int)))
  have HA0 := hide (HA.out.below ((Below.refl _ w2).alloc (Nat.le_refl _) (.cells #[.int .i64 0, .int .i64 (K : Int)] 27)))
  have HB0 := hide (HB.out.alloc HB.out.size (.cells #[.int .i64 0, .int .i64 (K : Int)] 27))
  have HFB := hide HB.out.size
  go_loopw [7, 31] (fun tv i wr => ∃ (k : Nat) (t : ByteArray), tv = .string t ∧ i = .int .i64 k ∧ k ≤ N ∧ Made ts k t ∧ TwoAt 27 wr w2.heap.size (.int .i64 0) (.int .i64 (K : Int)) ∧ TokAt wr w1.heap.size A ts ∧ Below w.heap.size w wr) (fun _ i _ => N - (intOf i).toNat)
  case atStart => exact ⟨0, ⟨#[]⟩, rfl, rfl, Nat.zero_le _, Made.zero _, HF0.out, HA0.out, HB0.out⟩
  case round =>
    obtain ⟨k, t, rfl, rfl, k1, k2, k3, k4, k5⟩ := hrel
    have K2 := hide k2
    have K3 := hide k3
    have K4 := hide k4
    have K5 := hide k5
    clear k2 k3 k4 HF0 HA0 HB0 HA HB
    by_cases hk : k < N
    · obtain ⟨g, rfl, _, hg, hc⟩ := K4.out.resolve_left (by have := HNN.out; omega)
      obtain ⟨p0, p1⟩ := hc k (by have := HNN.out; omega)
      obtain ⟨X, hX⟩ : ∃ X, X = strOfNums (ts[k]?.getD ([], 0)).1 := ⟨_, rfl⟩
      obtain ⟨P, hP⟩ : ∃ P : Int, P = ((ts[k]?.getD ([], 0)).2 : Int) := ⟨_, rfl⟩
      rw [← hX] at p0
      rw [← hP] at p1
      have HX := hide hX
      obtain ⟨r, hr⟩ : ∃ r, r = k % n1 := ⟨_, rfl⟩
      have hrn : r < n1 := hr ▸ Nat.mod_lt _ (by omega)
      have hrt : (k : Int).tmod (n1 : Int) = (r : Int) := by rw [hr]; exact (Int.ofNat_tmod k n1).symm
      obtain ⟨S, hS⟩ := HSB.out r hrn
      have hS2 := (k5.cell (p := ⟨gb, off + r, none⟩) (cell_lt9 hS)).trans hS
      have hS3 : (wr.alloc (.cells #[.string X, .int .i64 P] 31)).cell? ⟨gb, off + r, none⟩ = some (.string S) := (((Below.refl _ wr).alloc (Nat.le_refl _) _).cell (p := ⟨gb, off + r, none⟩) (cell_lt9 hS2)).trans hS2
      have i1 : (0 : Int) ≤ (k : Int) := Int.natCast_nonneg _
      have i2 : (k : Int) < (N : Int) := by omega
      have i3 : (0 : Int) ≤ (r : Int) := Int.natCast_nonneg _
      have i4 : (r : Int) < (n1 : Int) := by omega
      have i5 : ¬ (n1 : Int) = 0 := by omega
      clear hX hP hc hS k5 hr
      have HAL : Hid (Below wr.heap.size wr (wr.alloc (.cells #[.string X, .int .i64 P] 31))) := (Below.refl _ wr).alloc (Nat.le_refl _) _
      have hts : t.size + X.size ≤ 65600 * 65600 := by
        obtain ⟨_, _, _, _, q4⟩ := K2.out
        have hk' : k < ts.length := by have := HNN.out; omega
        obtain ⟨q5, q6⟩ := HG.out ts[k] (List.getElem_mem hk')
        have q7 : X.size = ts[k].1.length := by
          rw [HX.out, ← xsOf_length, show ts[k]?.getD ([], 0) = ts[k] by simp [hk'], xsOf_nums q6]
        have : k * 65600 ≤ 65536 * 65600 := Nat.mul_le_mul_right _ (by omega)
        omega
      have b0 : ¬ 9223372036854775807 < t.size + X.size := by omega
      have b1 : ¬ 9223372036854775807 < t.size + X.size + 1 := by omega
      have b2 : ¬ 9223372036854775807 < t.size + X.size + 17 := by omega
      have b3 : ¬ 9223372036854775807 < t.size + X.size + 4 := by omega
      clear hts
      by_cases s1 : (S.toList == [108, 105, 110, 101]) = true
      · skip
        go_wp2_with fail
        go_roundw
        case rel => exact ⟨k + 1, _, rfl, by go_num, by omega, HX.out ▸ K2.out.step (by have := HNN.out; omega) HG.out (by decide), K3.out.alloc _, K4.out.below HAL.out, below_then K5.out HAL.out⟩
        case measure => simp [intOf]; omega
      · have s1' := Bool.eq_false_iff.2 s1
        clear s1
        by_cases s2 : (S.toList == [114, 101, 109, 97, 114, 107]) = true
        · skip
          go_wp2_with fail
          go_roundw
          case rel => exact ⟨k + 1, _, rfl, by go_num, by omega, HX.out ▸ K2.out.step (by have := HNN.out; omega) HG.out (by decide), K3.out.alloc _, K4.out.below HAL.out, below_then K5.out HAL.out⟩
          case measure => simp [intOf]; omega
        · have s2' := Bool.eq_false_iff.2 s2
          clear s2
          by_cases s3 : (S.toList == [116, 97, 98]) = true
          · skip
            go_wp2_with fail
            go_roundw
            case rel => exact ⟨k + 1, _, rfl, by go_num, by omega, HX.out ▸ K2.out.step (by have := HNN.out; omega) HG.out (by decide), K3.out.alloc _, K4.out.below HAL.out, below_then K5.out HAL.out⟩
            case measure => simp [intOf]; omega
          · have s3' := Bool.eq_false_iff.2 s3
            clear s3
            go_wp2_with fail
            go_roundw
            case rel => exact ⟨k + 1, _, rfl, by go_num, by omega, HX.out ▸ K2.out.step (by have := HNN.out; omega) HG.out (by decide), K3.out.alloc _, K4.out.below HAL.out, below_then K5.out HAL.out⟩
            case measure => simp [intOf]; omega
    · have hkN : k = N := by omega
      subst hkN
      by_cases ht : t.size ≤ 65536
      · obtain ⟨e1, e2⟩ := HS.out t ht K2.out
        have HRT := hide (HR2.out t ht)
        rw [e1, e2] at HRT
        obtain ⟨RK2, hRK2⟩ : ∃ x, x = (readO t).1.2 := ⟨_, rfl⟩
        rw [← hRK2] at HRT
        clear hRK2 e1 e2 HR2 HS
        have ht' : ¬ 65536 < t.size := by omega
        have ht2 : ¬ (65536 : Int) < (t.size : Int) := by omega
        go_wp2_with (first
          | (go_at_call 6; refine (HR1.out _ K5.out).mono ?_; rintro e w3 ⟨A3, n3, c3, rfl, hv, hB⟩; have HV3 := hide hv; have HB3 := hide hB; clear hv hB HR1; obtain ⟨⟨r0, r1⟩, ⟨z0, z1⟩⟩ := (K3.out.below HB3.out).cells))
        have HF4 := hide ((K3.out.below HB3.out).put (.int .i64 RT) (.int .i64 (RK : Int)))
        have HG4 : Hid (w3.grownBy ((w3.setCell ⟨w2.heap.size, 0, none⟩ (.int .i64 RT)).setCell ⟨w2.heap.size, 1, none⟩ (.int .i64 (RK : Int))) (some w2.heap.size)) := TwoAt.out _ _
        have HB4 := hide ((below_then K5.out HB3.out).trans (HG4.out.under HFB.out (below_then K5.out HB3.out).size))
        have HV4 := hide (FuncV.stays.slice HV3.out (far_keep HG4.out K3.out.lt))
        obtain ⟨W4, hW4⟩ : ∃ W, W = ((w3.setCell ⟨w2.heap.size, 0, none⟩ (.int .i64 RT)).setCell ⟨w2.heap.size, 1, none⟩ (.int .i64 (RK : Int))) := ⟨_, rfl⟩
        rw [← hW4] at HF4 HB4 HV4 ⊢
        clear HG4 HV3 HB3 hW4 r0 r1 z0 z1
        refine (HRT.out _ HB4.out).mono ?_
        rintro e w5 ⟨A5, n5, c5, rfl, hv, hB⟩
        have HV5 := hide (FuncV.stays.slice hv (Keep.of_below ((Below.refl _ w5).alloc (Nat.le_refl _) (.cells #[.int .i64 RT, .int .i64 (RK2 : Int)] 27))))
        have HV6 := hide (FuncV.stays.slice (FuncV.stays.slice HV4.out (Keep.of_below hB)) (Keep.of_below ((Below.refl _ w5).alloc (Nat.le_refl _) (.cells #[.int .i64 RT, .int .i64 (RK2 : Int)] 27))))
        have HB6 := hide (below_then (below_then HB4.out hB) ((Below.refl _ w5).alloc (Nat.le_refl _) (.cells #[.int .i64 RT, .int .i64 (RK2 : Int)] 27)))
        obtain ⟨⟨r0, r1⟩, _⟩ := ((HF4.out.below hB).alloc (.cells #[.int .i64 RT, .int .i64 (RK2 : Int)] 27)).cells
        clear hv hB HV4 HB4 HF4 HRT
        go_wp2_with (first
          | (go_at_call 7; refine (same_program 65538 (by decide) _ _ _ _ _ _ _ _ fs _ HV6.out HV5.out HO.out.1 HO.out.2).mono ?_; rintro e w7 ⟨rfl, hB⟩; have HB7 := hide (below_then HB6.out hB); clear hB HV5 HV6))
        go_ret
        exact ⟨rfl, HB7.out⟩
      · have ht' : 65536 < t.size := by omega
        have ht2 : (65536 : Int) < (t.size : Int) := by omega
        go_wp2_with fail
        go_ret
        exact ⟨rfl, K5.out⟩

theorem textBlanks_walk (s : ByteArray) (A1 : Option Addr) (n1 c1 : Nat) (w : World) (hmax : s.size ≤ 9223372036854775807) (hE : ErrAt w) (h2 : 2 < w.heap.size) (hs : Strs w A1 n1) :
    Calls Tryd.prog 3 #[.string s, .slice A1 n1 c1] w fun e w' => e = .returned (.bool true) ∧ Below w.heap.size w w' := by
  by_cases h : (tokO s).1.1 = 0
  · by_cases hn : n1 = 0
    · exact blanks_early s A1 n1 c1 w hmax hE h2 (.inr hn)
    · exact blanks_late s A1 n1 c1 w hmax hE h2 hs h hn
  · exact blanks_early s A1 n1 c1 w hmax hE h2 (.inl h)
end Go.Proofs.YtdpgbhenhealpaaDoor.V
