/-
  Contracts: slices.Grow of nothing, slices.Concat of lists of ints.
-/
import Derived.Test.YtoidgdbgpbcebaaK10
import Derived.Test.YtoidgdbgpbcebaaK9
import Derived.Lib.AppendZeros
namespace Go.Proofs.Ytoidgdbgpbcebaa.V
open Go.RowKit
set_option linter.unusedVariables false

theorem run_grow (n : Nat) (h0 : 0 < n) (hn : n ≤ 1000000) (w : World) : ∃ c w', (Builtin.append_ #[22, 3] 22 #[.slice none 0 0, .int .i64 n]).run Try.prog w = .ok (.slice (some ⟨w.heap.size, 0, none⟩) n c) w' ∧ w'.ownsRow w.heap.size 3 1 (.slice (some ⟨w.heap.size, 0, none⟩) 0 c) 0 [] ∧ Below w.heap.size w w' ∧ n ≤ c := by
  obtain ⟨i0, hi, hz0, hz1, hz2⟩ := info_parts info_int
  have h := Lib.run_append_nil_zeros (P := Try.prog) w 22 3 22 3 i0 (.int .i64 0) .i64 .i64 Try.underlying22 Try.underlying3 hi hz0 n h0 (by rw [hz1]; omega) (by omega) (by rw [hz2]; omega)
  have hge := grownCap_ge w n 0 3
  have hle := grownCap_le_maxLen w n 0 3 (by unfold maxLen; omega)
  refine ⟨_, _, h, ⟨rfl, .inr ⟨w.heap.size, _, _, rfl, Nat.le_refl _, World.alloc_heap_new _ _, Nat.zero_le _, hle, ?_, by simp⟩⟩, ((Below.refl _ _).drew).alloc (Nat.le_refl _) _, hge⟩
  simp only [Value.cells, Array.size_append]
  have hz : ∀ k, (Builtin.zeroCells #[Value.int .i64 0] k).size = k := fun k => by simp [Builtin.zeroCells]
  rw [hz, hz]
  omega
set_option maxRecDepth 100000 in
set_option maxHeartbeats 1000000 in
theorem grow_any (n : Nat) (h0 : 0 < n) (hn : n ≤ 1000000) (w : World) :
    Calls Try.prog 113 #[.slice none 0 0, .int .i64 n] w fun e w' => (∃ v, e = .returned v ∧ w'.ownsRow w.heap.size 3 1 v 0 []) ∧ Below w.heap.size w w' := by
  obtain ⟨c, w', h1, h2, h3, h4⟩ := run_grow n h0 hn w
  have H2 := hide h2
  have H3 := hide h3
  clear h2 h3
  go_enter Try.func113, Try.ntmps113
  go_wp2_with (at_builtin; refine Lib.wpList_append_run _ rfl _ _ _ _ rfl _ _ rfl rfl _ _ h1 ?_)
  go_ret
  exact ⟨⟨_, rfl, H2.out⟩, H3.out⟩
/-- Lists in a block. -/
def Ls (w : World) (b off : Nat) (xss : List (List Int)) : Prop := ∀ j, j < xss.length → ∃ X n c, w.cell? ⟨b, off + j, none⟩ = some (.slice X n c) ∧ Lst w X n c (xss[j]?.getD [])
theorem Ls.below {w w' : World} {b off : Nat} {xss : List (List Int)} (h : Ls w b off xss) (hb : Below w.heap.size w w') : Ls w' b off xss := fun j hj => by
  obtain ⟨X, n, c, h1, h2⟩ := h j hj
  exact ⟨X, n, c, (hb.cell (p := ⟨b, off + j, none⟩) (lt_of_cell h1)).trans h1, h2.below hb⟩
theorem flat_step (xss : List (List Int)) (k : Nat) (hk : k < xss.length) : (xss.take (k + 1)).flatten = (xss.take k).flatten ++ xss[k]?.getD [] := by
  rw [List.take_add_one, List.flatten_append]
  simp [hk]
theorem flat_le (xss : List (List Int)) (k : Nat) : ((xss.take k).flatten).length ≤ xss.flatten.length := by
  conv => rhs; rw [← List.take_append_drop k xss, List.flatten_append, List.length_append]
  omega
/-- How many numbers the first k lists have. -/
def totL (xss : List (List Int)) (k : Nat) : Nat := ((xss.take k).flatten).length
set_option maxRecDepth 100000 in
set_option maxHeartbeats 2000000 in
theorem concat_any (b off c : Nat) (xss : List (List Int)) (w : World) (h : Ls w b off xss) (h0 : 0 < xss.flatten.length) (hn : xss.flatten.length ≤ 1000000) (hm : xss.length ≤ 1000000) :
    Calls Try.prog 99 #[.slice (some ⟨b, off, none⟩) xss.length c] w fun e w' => (∃ X l c, e = .returned (.slice X l c) ∧ Lies w.heap.size (fun V => Lst V X l c xss.flatten) w') ∧ Below w.heap.size w w' := by
  have H := hide h
  have HF := hide (fun k (hk : k < xss.length) => flat_step xss k hk)
  have HLE := hide (fun k => flat_le xss k)
  obtain ⟨n, hnn⟩ : ∃ n, n = xss.length := ⟨_, rfl⟩
  obtain ⟨N, hNN⟩ : ∃ N, N = xss.flatten.length := ⟨_, rfl⟩
  have HN := hide hnn
  have HNN := hide hNN
  rw [← hnn] at hm ⊢
  rw [← hNN] at h0 hn
  have HG := hide (fun W => grow_any N h0 hn W)
  clear h hnn hNN
  go_enter Try.func99, Try.ntmps99
  go_wp2_with fail
  go_loopw [3, 11] (fun s i wr => ∃ k : Nat, k ≤ n ∧ i = .int .i64 k ∧ s = .int .i64 (totL xss k : Nat) ∧ wr = w) (fun _ i _ => n - (intOf i).toNat)
  case atStart => exact ⟨0, Nat.zero_le _, rfl, by simp [totL], rfl⟩
  case round =>
    obtain ⟨k, hk, rfl, rfl, hw⟩ := hrel
    obtain rfl := hw.symm
    by_cases hlt : k < n
    · have hkl : k < xss.length := by rw [← HN.out]; exact hlt
      obtain ⟨X, m, cc, c1, c2⟩ := H.out k hkl
      have hs := HF.out k hkl
      have hl := congrArg List.length hs
      rw [List.length_append, c2.1.1] at hl
      have hle := HLE.out (k + 1)
      rw [← HNN.out] at hle
      have hl' : totL xss (k + 1) = totL xss k + m := hl
      have hle1 : totL xss (k + 1) ≤ N := hle
      clear hl hle
      obtain ⟨p, hp⟩ : ∃ p, p = totL xss k := ⟨_, rfl⟩
      rw [← hp] at hl' ⊢
      have z1 := lt_of_cell c1
      clear c2 hs
      have q1 : ¬ ((p : Int) + (m : Int) < 0) := by omega
      go_wp2_with fail
      go_roundw
      case rel => exact ⟨k + 1, by omega, by go_num, by rw [hl']; go_num, trivial⟩
      case measure => simp [intOf]; omega
    · obtain rfl : k = n := by omega
      have ht : totL xss k = N := by unfold totL; rw [HN.out, List.take_length, HNN.out]
      rw [ht]
      clear ht
      go_wp2_with fail
      refine (HG.out w).mono ?_
      rintro e w1 ⟨⟨v, rfl, ho⟩, hb⟩
      have HO := hide ho
      have HB := hide hb
      clear ho hb
      go_wp2_with fail
      go_loopw [6, 27] (fun v i wr => ∃ j : Nat, j ≤ k ∧ i = .int .i64 j ∧ wr.ownsRow w.heap.size 3 1 v (totL xss j) (((xss.take j).flatten).map (Value.int .i64)) ∧ Below w.heap.size w wr) (fun _ i _ => k - (intOf i).toNat)
      case atStart => exact ⟨0, Nat.zero_le _, rfl, by simpa [totL] using HO.out, HB.out⟩
      case round =>
        obtain ⟨j, hj, rfl, hO, hB⟩ := hrel
        have HO2 := hide hO
        have HB2 := hide hB
        clear hO hB HO HB
        by_cases hlt : j < k
        · have hkl : j < xss.length := by rw [← HN.out]; exact hlt
          obtain ⟨X, m, cc, c1, c2⟩ := (H.out.below HB2.out) j hkl
          have hs := HF.out j hkl
          have hl := congrArg List.length hs
          rw [List.length_append, c2.1.1] at hl
          have hle := HLE.out (j + 1)
          rw [← HNN.out] at hle
          have z1 := lt_of_cell c1
          have hbs := HB2.out.size
          have HS := hide hs
          have HC2 := hide c2
          have HLL := hide hl
          have hle' : totL xss j + m ≤ N := by unfold totL; omega
          clear c2 hs hl hle
          go_wp2_with (at_builtin; refine append_list (by rfl) (.tmp 31) (.tmp 32) (by rfl) w.heap.size _ _ _ (by rfl) HO2.out _ _ _ (xss[j]?.getD []) (by rfl) HC2.out (by omega) hbs ?_; intro v1 w1 hown1 hg1; have HO3 := hide hown1; have HB3 := hide (grown_own HB2.out HO2.out hg1); clear hown1 hg1)
          go_roundw
          case rel =>
            have e : totL xss (j + 1) = totL xss j + m := HLL.out
            refine ⟨j + 1, by omega, by go_num, ?_, HB3.out⟩
            rw [e, HS.out, List.map_append]
            exact HO3.out
          case measure => simp [intOf]; omega
        · obtain rfl : j = k := by omega
          go_wp2_with fail
          go_ret
          have hO := HO2.out
          have ht : xss.take j = xss := by rw [HN.out, List.take_length]
          unfold totL at hO
          rw [ht] at hO
          refine ⟨?_, HB2.out⟩
          rcases hO.2 with ⟨e1, e2⟩ | ⟨g, cap, cur, e1, h3, h4, h5, h6, h7, h8⟩
          · exact absurd e2 (by rw [← HNN.out]; omega)
          · subst e1
            refine ⟨_, _, _, rfl, fun V hV => ⟨?_, h5, fun e => by cases e⟩⟩
            have hg := hV.1 g _ _ h3 (by decide) h4
            have hO' : V.ownsRow w.heap.size 3 1 (.slice (some ⟨g, 0, none⟩) xss.flatten.length cap) xss.flatten.length (xss.flatten.map (Value.int .i64)) := ⟨hO.1, .inr ⟨g, cap, cur, rfl, h3, hg.trans h4, h5, h6, h7, h8⟩⟩
            refine ints_of_own hO' rfl (by rw [← HNN.out]; omega) (fun x hx => ?_)
            obtain ⟨l, hl1, hl2⟩ := List.mem_flatten.1 hx
            obtain ⟨i, hi, rfl⟩ := List.mem_iff_getElem.1 hl1
            obtain ⟨X, m, cc, c1, c2⟩ := H.out i hi
            simp only [List.getElem?_eq_getElem hi, Option.getD_some] at c2
            exact c2.1.2.2.1 x hl2
end Go.Proofs.Ytoidgdbgpbcebaa.V
