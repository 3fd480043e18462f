/-
  A description of points among the arguments. A nest and its memory among the arguments. Times among the arguments.
-/
import Derived.Test.YtoidgdbgpbcebaaK7
import Derived.Test.YtoidgdbgpbcebaaK10
import Derived.Deep.SlicePairs
import Derived.ChangeArms
import Derived.Test.YtoidgdbgpbcebaaK11
import Derived.SizedLaws
namespace Go.Proofs.Ytoidgdbgpbcebaa.V
open Go.RowKit Go.Deep Go.ChangeShapes Go.WideShapes

theorem cellsRow : Try.prog.cellsOf 66 = 2 := by kernel_rfl
theorem cellsPt : Try.prog.cellsOf 64 = 2 := by kernel_rfl
section
variable {H : Type} {enc : TypeId × Value → H} {W : World}
theorem row_ints {fuel : Nat} {v : Value} {y : DataW H × List MemPlace} (h : DataW.trod enc Try.prog W 0 (fun _ => true) true fuel 22 [v] = some y) : ∃ (a : Option Addr) (len cap : Nat) (xs : List Int), v = .slice a len cap ∧ Lst W a len cap xs ∧ cap ≤ maxLen := by
  rcases open_ints Try.underlying22 Try.underlying3 (by kernel_rfl) h with ⟨hcs, _⟩ | ⟨x, l, c, zs, hcs, _, hl, hm, hz, _, hcell, hwz⟩
  · exact ⟨none, 0, 0, [], by simpa using hcs, ⟨⟨rfl, by omega, by simp, .inl rfl⟩, Nat.le_refl _, fun _ => rfl⟩, by unfold maxLen; omega⟩
  · exact ⟨some x, l, c, zs.take l, by simpa using hcs, ⟨ints_of_row (cap := c) (.inr ⟨x, rfl, hl, hm, by simpa using hz, hcell, hwz⟩), hl, fun e => by cases e⟩, hm⟩
theorem rows_open {fuel : Nat} {v : Value} {y : DataW H × List MemPlace} (h : DataW.trod enc Try.prog W 0 (fun _ => true) true fuel 62 [v] = some y) : ∃ (a : Option Addr) (len cap : Nat) (rs : List (List Int × Int)), v = .slice a len cap ∧ Rws W a len rs ∧ len ≤ cap ∧ cap ≤ maxLen := by
  rcases open_slice_pairs Try.underlying62 Try.underlying66 cellsRow rfl rfl (by kernel_rfl) (by kernel_rfl) h with ⟨hcs, hx⟩ | ⟨x, l, c, m, n, V0, V1, D0, D1, P0, P1, hcs, hlc, hl, hm, hmm, hx, hel⟩
  · exact ⟨none, 0, 0, [], by simpa using hcs, ⟨rfl, by omega, .inl rfl⟩, Nat.le_refl _, by unfold maxLen; omega⟩
  · have hmc : m = c := by simpa using hmm
    have hch : ∀ i : Nat, ∃ u : List Int × Int, i < l → (∃ a len cap, V0 i = .slice a len cap ∧ Lst W a len cap u.1) ∧ V1 i = .int .i64 u.2 ∧ -9223372036854775808 ≤ u.2 ∧ u.2 ≤ 9223372036854775807 := fun i => by
      by_cases hi : i < l
      · obtain ⟨a, len, cap, xs, e1, e2, _⟩ := row_ints (hel i (by omega)).2.2.1
        obtain ⟨N, e4, _, e5⟩ := DataW.trod_int Try.underlying3 (hel i (by omega)).2.2.2
        exact ⟨(xs, N), fun _ => ⟨⟨a, len, cap, e1, e2⟩, by simpa using e4, bounds_i64 e5⟩⟩
      · exact ⟨([], 0), fun hh => absurd hh hi⟩
    obtain ⟨f, hf⟩ := Classical.axiomOfChoice hch
    refine ⟨some x, l, c, (List.range l).map f, by simpa using hcs, ⟨by simp, by unfold maxLen at hm; omega, ?_⟩, by omega, hm⟩
    by_cases h0 : l = 0
    · exact .inl h0
    · obtain ⟨b, off, spot⟩ := x
      have hspot : spot = none := by simpa [Addr.add] using World.cell?_spot (hel 0 (by omega)).1
      subst hspot
      refine .inr ⟨b, off, rfl, fun j hj => ?_⟩
      obtain ⟨⟨a, len, cap, e1, e2⟩, e4, e5⟩ := hf j hj
      have c0 := (hel j (by omega)).1
      have c1 := (hel j (by omega)).2.1
      rw [e1, Go.WideShapes.add_plain] at c0
      rw [e4, Go.WideShapes.add_plain, ← Nat.add_assoc] at c1
      have ej : ((List.range l).map f)[j]?.getD ([], 0) = f j := by simp [hj]
      rw [ej]
      exact ⟨a, len, cap, c0, c1, e2.1, e2.2, e5⟩
end
end Go.Proofs.Ytoidgdbgpbcebaa.V
namespace Go.Proofs.Ytoidgdbgpbcebaa.V
open Go.RowKit Go.Deep Go.ChangeShapes Go.WideShapes
set_option linter.unusedVariables false

theorem cellsStmt : Try.prog.cellsOf 71 = 8 := by kernel_rfl
theorem cellsAcc : Try.prog.cellsOf 68 = 3 := by kernel_rfl
theorem cellsNest : Try.prog.cellsOf 25 = 2 := by kernel_rfl
theorem cellsInt : Try.prog.cellsOf 3 = 1 := by kernel_rfl
theorem cellsInt64 : Try.prog.cellsOf 2 = 1 := by kernel_rfl
theorem cellsInts : Try.prog.cellsOf 22 = 1 := by kernel_rfl
theorem cellsInts64 : Try.prog.cellsOf 82 = 1 := by kernel_rfl
theorem cellsRows : Try.prog.cellsOf 62 = 1 := by kernel_rfl
theorem cellsAccs : Try.prog.cellsOf 69 = 1 := by kernel_rfl
section
variable {H : Type} {enc : TypeId × Value → H} {W : World}
theorem acc_open {fuel : Nat} {v0 v1 v2 : Value} {y : DataW H × List MemPlace} (h : DataW.trod enc Try.prog W 0 (fun _ => true) true fuel 68 [v0, v1, v2] = some y) : ∃ (q : AW) (a : Acc), v0 = .int .i64 q.arr ∧ v1 = .slice q.ca q.cl q.cc ∧ v2 = .int .i64 q.con ∧ AG W q a := by
  obtain ⟨y0, y1, n, _, _, h0, h1⟩ := trod_struct2 Try.underlying68 h
  simp only [cellsInt, cellsRow, List.drop, List.take] at h0 h1
  obtain ⟨z0, z1, n', _, _, h2, h3⟩ := trod_struct2 Try.underlying66 h1
  simp only [cellsInt, cellsInts, List.drop, List.take] at h2 h3
  obtain ⟨N, e4, _, e5⟩ := DataW.trod_int Try.underlying3 h0
  obtain ⟨a, len, cap, xs, e1, e2, _⟩ := row_ints h2
  obtain ⟨K, e6, _, e7⟩ := DataW.trod_int Try.underlying3 h3
  exact ⟨⟨N, a, len, cap, K⟩, (N, xs, K), by simpa using e4, e1, by simpa using e6, ⟨rfl, rfl, e2.1, e2.2, bounds_i64 e5, bounds_i64 e7⟩⟩
theorem accs_open {fuel : Nat} {v : Value} {y : DataW H × List MemPlace} (h : DataW.trod enc Try.prog W 0 (fun _ => true) true fuel 69 [v] = some y) : ∃ (a : Option Addr) (len cap : Nat) (gs : List Acc), v = .slice a len cap ∧ Accs W a len gs := by
  rcases open_slice Try.underlying69 h with ⟨hcs, _⟩ | ⟨x, l, c, m, n, D, Pl, hcs, _, hl, hm, hmm, _, hx⟩
  · exact ⟨none, 0, 0, [], by simpa using hcs, ⟨rfl, by omega, .inl rfl⟩⟩
  · have hmc : m = c := by simpa using hmm
    rw [cellsAcc] at hx
    have hch : ∀ i : Nat, ∃ u : Acc, i < l → ∃ q : AW, AG W q u ∧ W.cell? (x.add (i * 3)) = some (.int .i64 q.arr) ∧ W.cell? (x.add (i * 3 + 1)) = some (.slice q.ca q.cl q.cc) ∧ W.cell? (x.add (i * 3 + 2)) = some (.int .i64 q.con) := fun i => by
      by_cases hi : i < l
      · obtain ⟨cs, g1, g2⟩ := hx i (by omega)
        obtain ⟨_, hlen, hcell⟩ := World.cells?_some g1
        match cs, hlen with
        | [v0, v1, v2], _ =>
          obtain ⟨q, a, e0, e1, e2, hg⟩ := acc_open g2
          have c0 := hcell 0 (by omega)
          have c1 := hcell 1 (by omega)
          have c2 := hcell 2 (by omega)
          rw [add_add] at c0 c1 c2
          exact ⟨a, fun _ => ⟨q, hg, by simpa [e0] using c0, by simpa [e1] using c1, by simpa [e2] using c2⟩⟩
      · exact ⟨accD, fun hh => absurd hh hi⟩
    obtain ⟨f, hf⟩ := Classical.axiomOfChoice hch
    refine ⟨some x, l, c, (List.range l).map f, by simpa using hcs, ⟨by simp, by unfold maxLen at hm; omega, ?_⟩⟩
    by_cases h0 : l = 0
    · exact .inl h0
    · obtain ⟨b, off, spot⟩ := x
      have hspot : spot = none := by
        obtain ⟨q, _, g1, _⟩ := hf 0 (by omega)
        simpa [Addr.add] using World.cell?_spot g1
      subst hspot
      refine .inr ⟨b, off, rfl, fun j hj => ?_⟩
      obtain ⟨q, hg, g1, g2, g3⟩ := hf j hj
      rw [Go.WideShapes.add_plain] at g1 g2 g3
      have ej : ((List.range l).map f)[j]?.getD accD = f j := by simp [hj]
      rw [ej]
      refine ⟨by rw [← hg.arr]; exact g1, ⟨q.ca, q.cl, q.cc, by rw [Nat.add_assoc]; exact g2, by rw [← hg.con, Nat.add_assoc, Nat.add_assoc]; exact g3, hg.coef, hg.cap, hg.bd.2⟩, hg.bd.1⟩
theorem stm_open {fuel : Nat} {cs : List Value} {y : DataW H × List MemPlace} (h : DataW.trod enc Try.prog W 0 (fun _ => true) true fuel 71 cs = some y) (hlen : cs.length = 8) : ∃ (q : SW) (s : Stm), cs = q.cs.toList ∧ SG W q s := by
  match cs, hlen with
  | [v0, v1, v2, v3, v4, v5, v6, v7], _ =>
    obtain ⟨xs, n, _, _, _, hxl, hf⟩ := DataW.trod_struct Try.underlying71 h
    match xs, hxl with
    | [x0, x1, x2, x3, x4], _ =>
      have g0 := hf 0 _ rfl
      have g1 := hf 1 _ rfl
      have g2 := hf 2 _ rfl
      have g3 := hf 3 _ rfl
      have g4 := hf 4 _ rfl
      simp [cellsInt, cellsInt64, cellsPt, cellsAcc, cellsAccs, List.drop, List.take] at g0 g1 g2 g3 g4
      obtain ⟨z0, z1, n', _, _, h2, h3⟩ := trod_struct2 Try.underlying64 g0
      simp only [cellsInts, cellsRows, List.drop, List.take] at h2 h3
      obtain ⟨ba, bl, bc, bx, e0, w0, _⟩ := row_ints h2
      obtain ⟨ra, rl, rc, rs, e1, w1, _⟩ := rows_open h3
      obtain ⟨K, e2, _, d2⟩ := DataW.trod_int Try.underlying3 g1
      obtain ⟨V, e3, _, d3⟩ := DataW.trod_int Try.underlying2 g2
      obtain ⟨q, a, e4, e5, e6, hg⟩ := acc_open g3
      obtain ⟨ga, gl, gc, gs, e7, w7⟩ := accs_open g4
      refine ⟨⟨ba, bl, bc, ra, rl, rc, K, V, q, ga, gl, gc⟩, ⟨bx, rs, K, V, a, gs⟩, ?_, ⟨w0, w1, rfl, rfl, hg, w7, bounds_i64 d2, bounds_i64 d3⟩⟩
      simp at e2 e3
      simp [SW.cs, e0, e1, e2, e3, e4, e5, e6, e7]
theorem stms_open {fuel : Nat} {v : Value} {y : DataW H × List MemPlace} (h : DataW.trod enc Try.prog W 0 (fun _ => true) true fuel 23 [v] = some y) : ∃ (a : Option Addr) (len cap : Nat) (ss : List Stm), v = .slice a len cap ∧ Stms W a len ss := by
  rcases open_slice Try.underlying23 h with ⟨hcs, _⟩ | ⟨x, l, c, m, n, D, Pl, hcs, _, hl, hm, hmm, _, hx⟩
  · exact ⟨none, 0, 0, [], by simpa using hcs, ⟨rfl, by omega, .inl rfl⟩⟩
  · have hmc : m = c := by simpa using hmm
    rw [cellsStmt] at hx
    have hch : ∀ i : Nat, ∃ u : Stm, i < l → ∃ q : SW, SG W q u ∧ ∀ j, j < 8 → W.cell? (x.add (i * 8 + j)) = q.cs[j]? := fun i => by
      by_cases hi : i < l
      · obtain ⟨cs, g1, g2⟩ := hx i (by omega)
        obtain ⟨_, hlen, hcell⟩ := World.cells?_some g1
        obtain ⟨q, s, e, hg⟩ := stm_open g2 hlen
        refine ⟨s, fun _ => ⟨q, hg, fun j hj => ?_⟩⟩
        have := hcell j hj
        rw [add_add, e] at this
        rw [this]
        simp
      · exact ⟨stmD, fun hh => absurd hh hi⟩
    obtain ⟨f, hf⟩ := Classical.axiomOfChoice hch
    refine ⟨some x, l, c, (List.range l).map f, by simpa using hcs, ⟨by simp, by unfold maxLen at hm; omega, ?_⟩⟩
    by_cases h0 : l = 0
    · exact .inl h0
    · obtain ⟨b, off, spot⟩ := x
      have hspot : spot = none := by
        obtain ⟨q, _, g1⟩ := hf 0 (by omega)
        have := g1 0 (by omega)
        simp only [SW.cs] at this
        simpa [Addr.add] using World.cell?_spot this
      subst hspot
      refine .inr ⟨b, off, rfl, fun j hj => ?_⟩
      obtain ⟨q, hg, g⟩ := hf j hj
      have ej : ((List.range l).map f)[j]?.getD stmD = f j := by simp [hj]
      rw [ej]
      have gg : ∀ i, i < 8 → W.cell? ⟨b, off + j * 8 + i, none⟩ = q.cs[i]? := fun i hi => by
        have := g i hi
        rw [Go.WideShapes.add_plain, ← Nat.add_assoc] at this
        exact this
      exact ⟨q, hg, gg 0 (by omega), gg 1 (by omega), gg 2 (by omega), gg 3 (by omega), gg 4 (by omega), gg 5 (by omega), gg 6 (by omega), gg 7 (by omega)⟩
theorem row_ints64 {fuel : Nat} {v : Value} {y : DataW H × List MemPlace} (h : DataW.trod enc Try.prog W 0 (fun _ => true) true fuel 82 [v] = some y) : ∃ (a : Option Addr) (len cap : Nat) (xs : List Int), v = .slice a len cap ∧ Lst W a len cap xs := by
  rcases open_ints Try.underlying82 Try.underlying2 (by kernel_rfl) h with ⟨hcs, _⟩ | ⟨x, l, c, zs, hcs, _, hl, hm, hz, _, hcell, hwz⟩
  · exact ⟨none, 0, 0, [], by simpa using hcs, ⟨rfl, by omega, by simp, .inl rfl⟩, Nat.le_refl _, fun _ => rfl⟩
  · exact ⟨some x, l, c, zs.take l, by simpa using hcs, ints_of_row (cap := c) (.inr ⟨x, rfl, hl, hm, by simpa using hz, hcell, hwz⟩), hl, fun e => by cases e⟩
theorem mem_open {fuel : Nat} {v : Value} {y : DataW H × List MemPlace} (h : DataW.trod enc Try.prog W 0 (fun _ => true) true fuel 28 [v] = some y) : ∃ (a : Option Addr) (len cap : Nat) (L : Mem), v = .slice a len cap ∧ MemA W a len L ∧ ((len = 0) ∨ ∃ elems spare, y.1 = .slice elems spare ∧ elems.length = len) := by
  rcases open_slice Try.underlying28 h with ⟨hcs, _⟩ | ⟨x, l, c, m, n, D, Pl, hcs, _, hl, hm, hmm, hy, hx⟩
  · exact ⟨none, 0, 0, [], by simpa using hcs, ⟨rfl, by omega, .inl rfl⟩, .inl rfl⟩
  · have hmc : m = c := by simpa using hmm
    rw [cellsInts64] at hx
    have hch : ∀ i : Nat, ∃ u : List Int, i < l → ∃ a len cap, W.cell? (x.add i) = some (.slice a len cap) ∧ Lst W a len cap u := fun i => by
      by_cases hi : i < l
      · obtain ⟨cs, g1, g2⟩ := hx i (by omega)
        obtain ⟨_, hlen, hcell⟩ := World.cells?_some g1
        match cs, hlen with
        | [v0], _ =>
          obtain ⟨a, len, cap, xs, e0, hL⟩ := row_ints64 g2
          have c0 := hcell 0 (by omega)
          rw [add_add] at c0
          exact ⟨xs, fun _ => ⟨a, len, cap, by simpa [e0] using c0, hL⟩⟩
      · exact ⟨[], fun hh => absurd hh hi⟩
    obtain ⟨f, hf⟩ := Classical.axiomOfChoice hch
    refine ⟨some x, l, c, (List.range l).map f, by simpa using hcs, ⟨by simp, by unfold maxLen at hm; omega, ?_⟩, .inr ⟨_, _, by rw [hy], by simp⟩⟩
    by_cases h0 : l = 0
    · exact .inl h0
    · obtain ⟨b, off, spot⟩ := x
      have hspot : spot = none := by
        obtain ⟨_, _, _, g1, _⟩ := hf 0 (by omega)
        simpa [Addr.add] using World.cell?_spot g1
      subst hspot
      refine .inr ⟨b, off, rfl, fun j hj => ?_⟩
      obtain ⟨a, len, cap, g1, g2⟩ := hf j hj
      rw [Go.WideShapes.add_plain] at g1
      have ej : arrM ((List.range l).map f) j = f j := by unfold arrM; simp [hj]
      rw [ej]
      exact ⟨a, len, cap, g1, g2⟩
end
end Go.Proofs.Ytoidgdbgpbcebaa.V
namespace Go.Proofs.Ytoidgdbgpbcebaa.V
open Go.RowKit Go.Deep Go.ChangeShapes Go.WideShapes
set_option linter.unusedVariables false

section
variable {H : Type} {enc : TypeId × Value → H} {W : World}
theorem times_open {fuel : Nat} {v : Value} {y : DataW H × List MemPlace} (h : DataW.trod enc Try.prog W 0 (fun _ => true) true fuel 27 [v] = some y) : ∃ (a : Option Addr) (len cap : Nat) (T : List (List (List Int × Int))), v = .slice a len cap ∧ TimesA W a len T := by
  rcases open_slice Try.underlying27 h with ⟨hcs, _⟩ | ⟨x, l, c, m, n, D, Pl, hcs, _, hl, hm, hmm, hy, hx⟩
  · exact ⟨none, 0, 0, [], by simpa using hcs, ⟨rfl, by omega, .inl rfl⟩⟩
  · have hmc : m = c := by simpa using hmm
    rw [cellsRows] at hx
    have hch : ∀ i : Nat, ∃ u : List (List Int × Int), i < l → ∃ a len cap, W.cell? (x.add i) = some (.slice a len cap) ∧ Rws W a len u := fun i => by
      by_cases hi : i < l
      · obtain ⟨cs, g1, g2⟩ := hx i (by omega)
        obtain ⟨_, hlen, hcell⟩ := World.cells?_some g1
        match cs, hlen with
        | [v0], _ =>
          obtain ⟨a, len, cap, rs, e0, hL, _⟩ := rows_open g2
          have c0 := hcell 0 (by omega)
          rw [add_add] at c0
          exact ⟨rs, fun _ => ⟨a, len, cap, by simpa [e0] using c0, hL⟩⟩
      · exact ⟨[], fun hh => absurd hh hi⟩
    obtain ⟨f, hf⟩ := Classical.axiomOfChoice hch
    refine ⟨some x, l, c, (List.range l).map f, by simpa using hcs, ⟨by simp, by unfold maxLen at hm; omega, ?_⟩⟩
    by_cases h0 : l = 0
    · exact .inl h0
    · obtain ⟨b, off, spot⟩ := x
      have hspot : spot = none := by
        obtain ⟨_, _, _, g1, _⟩ := hf 0 (by omega)
        simpa [Addr.add] using World.cell?_spot g1
      subst hspot
      refine .inr ⟨b, off, rfl, fun j hj => ?_⟩
      obtain ⟨a, len, cap, g1, g2⟩ := hf j hj
      have ej : ((List.range l).map f)[j]?.getD [] = f j := by simp [hj]
      rw [ej]
      rw [Go.WideShapes.add_plain] at g1
      exact ⟨a, len, cap, g1, g2⟩
end
end Go.Proofs.Ytoidgdbgpbcebaa.V
