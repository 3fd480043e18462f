/-
  Contracts: slices.Grow of nothing, slices.Concat of lists of words.
-/
import Derived.Test.YticcoacoepajpaaPK13
import Derived.Test.YticcoacoepajpaaPK19
import Derived.Lib.AppendZeros
namespace Go.Proofs.Yticcoacoepajpaa.V
open Go Go.RowKit
set_option linter.unusedVariables false
set_option linter.unusedSimpArgs false

theorem run_grow (n : Nat) (h0 : 0 < n) (hn : n ≤ 2000000) (w : World) : ∃ c w', (Builtin.append_ #[24, 3] 24 #[.slice none 0 0, .int .i64 n]).run Try.prog w = .ok (.slice (some ⟨w.heap.size, 0, none⟩) n c) w' ∧ w'.ownsRow w.heap.size 2 1 (.slice (some ⟨w.heap.size, 0, none⟩) 0 c) 0 [] ∧ Below w.heap.size w w' ∧ n ≤ c := by
  obtain ⟨i0, hi, hz0, hz1, hz2⟩ := info_parts info_int64
  have h := Lib.run_append_nil_zeros (P := Try.prog) w 24 3 24 2 i0 (.int .i64 0) .i64 .i64 Try.underlying24 Try.underlying3 hi hz0 n h0 (by rw [hz1]; omega) (by omega) (by rw [hz2]; omega)
  have hge := grownCap_ge w n 0 2
  have hle := grownCap_le_maxLen w n 0 2 (by unfold maxLen; omega)
  refine ⟨_, _, h, ⟨rfl, .inr ⟨w.heap.size, _, _, rfl, Nat.le_refl _, World.alloc_heap_new _ _, Nat.zero_le _, hle, ?_, by simp⟩⟩, ((Below.refl _ _).drew).alloc (Nat.le_refl _) _, hge⟩
  simp only [Value.cells, Array.size_append]
  have hz : ∀ k, (Builtin.zeroCells #[Value.int .i64 0] k).size = k := fun k => by simp [Builtin.zeroCells]
  rw [hz, hz]
  omega
set_option maxRecDepth 100000 in
set_option maxHeartbeats 1000000 in
theorem grow_any (n : Nat) (h0 : 0 < n) (hn : n ≤ 2000000) (w : World) :
    Calls Try.prog 59 #[.slice none 0 0, .int .i64 n] w fun e w' => (∃ v, e = .returned v ∧ w'.ownsRow w.heap.size 2 1 v 0 []) ∧ Below w.heap.size w w' := by
  obtain ⟨c, w', h1, h2, h3, h4⟩ := run_grow n h0 hn w
  have H2 := hide h2
  have H3 := hide h3
  clear h2 h3
  go_enter Try.func59, Try.ntmps59
  go_wp2_with (at_builtin; refine Lib.wpList_append_run _ rfl _ _ _ _ rfl _ _ rfl rfl _ _ h1 ?_)
  go_ret
  exact ⟨⟨_, rfl, H2.out⟩, H3.out⟩
set_option maxRecDepth 100000 in
set_option maxHeartbeats 1000000 in
theorem grow_zero (w : World) :
    Calls Try.prog 59 #[.slice none 0 0, .int .i64 0] w fun e w' => e = .returned (.slice none 0 0) ∧ w' = w := by
  go_enter Try.func59, Try.ntmps59
  go_wp2_with fail
  go_ret
  exact ⟨rfl, rfl⟩
theorem grow_all (n : Nat) (hn : n ≤ 2000000) (w : World) :
    Calls Try.prog 59 #[.slice none 0 0, .int .i64 (n : Int)] w fun e w' => (∃ v, e = .returned v ∧ w'.ownsRow w.heap.size 2 1 v 0 []) ∧ Below w.heap.size w w' := by
  by_cases h : n = 0
  · subst h
    exact (grow_zero w).mono fun e w' ⟨h1, h2⟩ => by
      subst h2
      exact ⟨⟨_, h1, ⟨rfl, .inl ⟨rfl, rfl⟩⟩⟩, Below.refl _ _⟩
  · exact grow_any n (by omega) hn w
theorem append_i64s {w : World} {ops : Array Oper} {rest : List Oper} {o : Oper} {a : Act} {Q : Exit → Act → World → Prop} (hgd : o.guard = none) (s x : Operand)
    (ho : o.op = .call { callee := .builtin .append, args := #[s, x], argTypes := #[24, 24] }) (base : Nat)
    (v : Value) (n : Nat) (xs : List Value) (hs : a.eval s = v) (hown : w.ownsRow base 2 1 v n xs)
    (X : Option Addr) (m c : Nat) (ys : List Int) (hx : a.eval x = .slice X m c) (hI : Ints w X m ys) (hbytes : (n + m) * 8 ≤ 140737488355328) (hbase : base ≤ w.heap.size)
    (h : ∀ v' w', w'.ownsRow base 2 1 v' (n + m) (xs ++ ys.map (Value.int .i64)) → w.grownBy w' v.ownBlock → wpList Try.prog ops Q rest (a.put o.dst v') w') : wpList Try.prog ops Q (o :: rest) a w := by
  obtain ⟨i0, hi, hz0, hz1, hz2⟩ := info_parts info_int64
  cases X with
  | none =>
    have hm0 : m = 0 := by
      rcases hI.2.2.2 with e | ⟨b, off, e, _⟩
      · exact e
      · cases e
    obtain rfl := hm0
    have hys : ys = [] := by rw [← List.length_eq_zero_iff]; exact hI.1
    subst hys
    refine wpList_append_noneC hgd s x 24 ho base 2 i0 1 Try.underlying24 hi v n xs hs hown c hx ?_
    exact h v w (by simpa using hown) (World.grownBy.refl w _)
  | some ad =>
    refine wpList_append_own w hgd s x 24 ho base 2 i0 (.int .i64 0) 1 8 Try.underlying24 hi hz0 hz1 hz2 rfl (by decide) v n xs hs hown ad m c (ys.map (Value.int .i64)) hx (by simp [hI.1]) ?_ ?_ (by unfold maxLen; omega) hbytes hbase (fun v' w' h1 h2 h3 => h v' w' h1 h2)
    · intro j u hj
      have hjl : j < m := by have := (List.getElem?_eq_some_iff.1 hj).1; simpa [hI.1] using this
      obtain ⟨b, off, e, _, hc⟩ := hI.at (by omega)
      cases e
      have h3 : u = .int .i64 (ys[j]?.getD 0) := by
        have : j < ys.length := by rw [hI.1]; exact hjl
        simp [this] at hj ⊢
        exact hj.symm
      rw [h3, Go.WideShapes.add_plain]
      exact hc j hjl
    · intro u hu; simp at hu; obtain ⟨y, _, rfl⟩ := hu; rfl
theorem append_num64 {w : World} {ops : Array Oper} {rest : List Oper} {o : Oper} {a : Act} {Q : Exit → Act → World → Prop} (hgd : o.guard = none) (s x : Operand)
    (ho : o.op = .call { callee := .builtin .append, args := #[s, x], argTypes := #[24, 24] }) (base : Nat)
    (v : Value) (n : Nat) (xs : List Value) (hs : a.eval s = v) (hown : w.ownsRow base 2 1 v n xs)
    (X : Option Addr) (m c : Nat) (ys : List Int) (hx : a.eval x = .slice X m c) (hl : Num w ⟨X, m, c⟩ ys) (hbytes : (n + m) * 8 ≤ 140737488355328) (hbase : base ≤ w.heap.size)
    (h : ∀ v' w', w'.ownsRow base 2 1 v' (n + m) (xs ++ ys.map (Value.int .i64)) → w.grownBy w' v.ownBlock → wpList Try.prog ops Q rest (a.put o.dst v') w') : wpList Try.prog ops Q (o :: rest) a w := append_i64s hgd s x ho base v n xs hs hown X m c ys hx hl.ints hbytes hbase h
theorem num_of_own {w : World} {B : Nat} {v : Value} {xs : List Int} (h : w.ownsRow B 2 1 v xs.length (xs.map (Value.int .i64))) (hm : xs.length ≤ 9223372036854775807) (hb : ∀ x ∈ xs, -9223372036854775808 ≤ x ∧ x ≤ 9223372036854775807) : ∃ y : Sl, v = .slice y.a y.n y.c ∧ Num w y xs ∧ ∀ b, y.On b → B ≤ b := by
  rcases h.2 with ⟨e1, e2⟩ | ⟨g, cap, cur, rfl, h3, h4, h5, h6⟩
  · have : xs = [] := List.length_eq_zero_iff.1 e2
    subst this
    exact ⟨slZ, e1, Num.nil _, fun b hO => by obtain ⟨h0, _⟩ := hO; simp [slZ] at h0⟩
  · refine ⟨⟨some ⟨g, 0, none⟩, xs.length, cap⟩, rfl, ⟨ints_of_own h rfl hm hb, h5, fun b hO => ?_⟩, fun b hO => ?_⟩
    · obtain ⟨_, off, e⟩ := hO
      simp only [Option.some.injEq, Addr.mk.injEq] at e
      rw [← e.1]
      exact ⟨cur, h4⟩
    · obtain ⟨_, off, e⟩ := hO
      simp only [Option.some.injEq, Addr.mk.injEq] at e
      rw [← e.1]
      exact h3
/-- Lists in a block. -/
def Lsn (w : World) (b off : Nat) (xss : List (List Int)) : Prop := ∀ j, j < xss.length → ∃ X n c, w.cell? ⟨b, off + j, none⟩ = some (.slice X n c) ∧ Num w ⟨X, n, c⟩ (xss[j]?.getD [])
theorem Lsn.below {w w' : World} {b off : Nat} {xss : List (List Int)} (h : Lsn w b off xss) (hb : Below w.heap.size w w') : Lsn w' b off xss := fun j hj => by
  obtain ⟨X, n, c, h1, h2⟩ := h j hj
  exact ⟨X, n, c, (hb.cell (p := ⟨b, off + j, none⟩) (lt_of_cell h1)).trans h1, h2.below hb⟩
theorem flat_step (xss : List (List Int)) (k : Nat) (hk : k < xss.length) : (xss.take (k + 1)).flatten = (xss.take k).flatten ++ xss[k]?.getD [] := by
  rw [List.take_add_one, List.flatten_append]
  simp [hk]
theorem flat_le (xss : List (List Int)) (k : Nat) : ((xss.take k).flatten).length ≤ xss.flatten.length := by
  conv => rhs; rw [← List.take_append_drop k xss, List.flatten_append, List.length_append]
  omega
/-- How many numbers the first k lists have. -/
def totL (xss : List (List Int)) (k : Nat) : Nat := ((xss.take k).flatten).length
set_option maxRecDepth 100000 in
set_option maxHeartbeats 2000000 in
theorem concat_any (b off c : Nat) (xss : List (List Int)) (w : World) (h : Lsn w b off xss) (hn : xss.flatten.length ≤ 2000000) (hm : xss.length ≤ 1000000) :
    Calls Try.prog 37 #[.slice (some ⟨b, off, none⟩) xss.length c] w fun e w' => (∃ y : Sl, e = .returned (.slice y.a y.n y.c) ∧ Num w' y xss.flatten ∧ ∀ b, y.On b → w.heap.size ≤ b) ∧ Below w.heap.size w w' := by
  have H := hide h
  have HF := hide (fun k (hk : k < xss.length) => flat_step xss k hk)
  have HLE := hide (fun k => flat_le xss k)
  obtain ⟨n, hnn⟩ : ∃ n, n = xss.length := ⟨_, rfl⟩
  obtain ⟨N, hNN⟩ : ∃ N, N = xss.flatten.length := ⟨_, rfl⟩
  have HN := hide hnn
  have HNN := hide hNN
  rw [← hnn] at hm ⊢
  rw [← hNN] at hn
  have HG := hide (fun W => grow_all N hn W)
  clear h hnn hNN
  go_enter Try.func37, Try.ntmps37
  go_wp2_with fail
  go_loopw [3, 11] (fun s i wr => ∃ k : Nat, k ≤ n ∧ i = .int .i64 k ∧ s = .int .i64 (totL xss k : Nat) ∧ wr = w) (fun _ i _ => n - (intOf i).toNat)
  case atStart => exact ⟨0, Nat.zero_le _, rfl, by simp [totL], rfl⟩
  case round =>
    obtain ⟨k, hk, rfl, rfl, hw⟩ := hrel
    obtain rfl := hw.symm
    by_cases hlt : k < n
    · have hkl : k < xss.length := by rw [← HN.out]; exact hlt
      obtain ⟨X, m, cc, c1, c2⟩ := H.out k hkl
      have hs := HF.out k hkl
      have hl := congrArg List.length hs
      rw [List.length_append, c2.len] at hl
      have hle := HLE.out (k + 1)
      rw [← HNN.out] at hle
      have hl' : totL xss (k + 1) = totL xss k + m := hl
      have hle1 : totL xss (k + 1) ≤ N := hle
      clear hl hle
      obtain ⟨p, hp⟩ : ∃ p, p = totL xss k := ⟨_, rfl⟩
      rw [← hp] at hl' ⊢
      have z1 := lt_of_cell c1
      clear c2 hs
      have q1 : ¬ ((p : Int) + (m : Int) < 0) := by omega
      go_wp2_with fail
      go_roundw
      case rel => exact ⟨k + 1, by omega, by go_num, by rw [hl']; go_num, trivial⟩
      case measure => simp [intOf]; omega
    · obtain rfl : k = n := by omega
      have ht : totL xss k = N := by unfold totL; rw [HN.out, List.take_length, HNN.out]
      rw [ht]
      clear ht
      go_wp2_with fail
      refine (HG.out w).mono ?_
      rintro e w1 ⟨⟨v, rfl, ho⟩, hb⟩
      have HO := hide ho
      have HB := hide hb
      clear ho hb
      go_wp2_with fail
      go_loopw [6, 27] (fun v i wr => ∃ j : Nat, j ≤ k ∧ i = .int .i64 j ∧ wr.ownsRow w.heap.size 2 1 v (totL xss j) (((xss.take j).flatten).map (Value.int .i64)) ∧ Below w.heap.size w wr) (fun _ i _ => k - (intOf i).toNat)
      case atStart => exact ⟨0, Nat.zero_le _, rfl, by simpa [totL] using HO.out, HB.out⟩
      case round =>
        obtain ⟨j, hj, rfl, hO, hB⟩ := hrel
        have HO2 := hide hO
        have HB2 := hide hB
        clear hO hB HO HB
        by_cases hlt : j < k
        · have hkl : j < xss.length := by rw [← HN.out]; exact hlt
          obtain ⟨X, m, cc, c1, c2⟩ := (H.out.below HB2.out) j hkl
          have hs := HF.out j hkl
          have hl := congrArg List.length hs
          rw [List.length_append, c2.len] at hl
          have hle := HLE.out (j + 1)
          rw [← HNN.out] at hle
          have z1 := lt_of_cell c1
          have hbs := HB2.out.size
          have HS := hide hs
          have HC2 := hide c2
          have HLL := hide hl
          have hle' : totL xss j + m ≤ N := by
            have hq : ((xss.take (j + 1)).flatten).length = ((xss.take j).flatten).length + m := hl
            unfold totL
            omega
          clear c2 hs hl hle
          go_wp2_with (at_builtin; refine append_num64 (by rfl) (.tmp 31) (.tmp 32) (by rfl) w.heap.size _ _ _ (by rfl) HO2.out _ _ _ (xss[j]?.getD []) (by rfl) HC2.out (by omega) hbs ?_; intro v1 w1 hown1 hg1; have HO3 := hide hown1; have HB3 := hide (grown_own HB2.out HO2.out hg1); clear hown1 hg1)
          go_roundw
          case rel =>
            have e : totL xss (j + 1) = totL xss j + m := HLL.out
            refine ⟨j + 1, by omega, by go_num, ?_, HB3.out⟩
            rw [e, HS.out, List.map_append]
            exact HO3.out
          case measure => simp [intOf]; omega
        · obtain rfl : j = k := by omega
          go_wp2_with fail
          go_ret
          have hO := HO2.out
          have ht : xss.take j = xss := by rw [HN.out, List.take_length]
          unfold totL at hO
          rw [ht] at hO
          refine ⟨?_, HB2.out⟩
          have hlN : xss.flatten.length = N := HNN.out.symm
          obtain ⟨y, e1, h2, h3⟩ := num_of_own hO (by omega) (fun x hx => by
            obtain ⟨l, hl1, hl2⟩ := List.mem_flatten.1 hx
            obtain ⟨i, hi, rfl⟩ := List.mem_iff_getElem.1 hl1
            obtain ⟨X, m, cc, c1, c2⟩ := H.out i hi
            simp only [List.getElem?_eq_getElem hi, Option.getD_some] at c2
            exact c2.ints.2.2.1 x hl2)
          subst e1
          exact ⟨y, rfl, h2, h3⟩
end Go.Proofs.Yticcoacoepajpaa.V
