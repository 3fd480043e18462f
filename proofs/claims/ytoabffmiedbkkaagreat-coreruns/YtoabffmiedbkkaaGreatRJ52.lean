/-
  Code among the arguments. Code among the arguments, with the bounds of its numbers; lists of numbers, with the room that they take.
-/
import Derived.Test.YtoabffmiedbkkaaGreatRJ12
import Derived.ChangeArms
import Derived.ChangeSame
import Derived.Deep.SlicePairs
import Derived.SizedLaws
import Derived.Test.YtoabffmiedbkkaaGreatRJ0
namespace Go.Proofs.YtoabffmiedbkkaaGreat.V
set_option maxRecDepth 20000
open Go.RowKit Go.Deep Go.ChangeShapes Go.WideShapes
set_option linter.unusedVariables false

theorem cellsIns : Tryz.prog.cellsOf 50 = 6 := by kernel_rfl
theorem cellsInt1 : Tryz.prog.cellsOf 3 = 1 := by kernel_rfl
theorem cellsInt64 : Tryz.prog.cellsOf 2 = 1 := by kernel_rfl
theorem cellsCode : Tryz.prog.cellsOf 24 = 4 := by kernel_rfl
section
variable {H : Type} {enc : TypeId × Value → H} {W : World}
end
end Go.Proofs.YtoabffmiedbkkaaGreat.V
namespace Go.Proofs.YtoabffmiedbkkaaGreat.V
set_option maxRecDepth 20000
open Go.RowKit Go.Deep Go.ChangeShapes Go.WideShapes
set_option linter.unusedVariables false

theorem wf_bd {n : Int} (h : (Lit.int .i64 n).wf = true) : bd64 n := by
  simp only [Lit.wf, Bool.and_eq_true, decide_eq_true_eq] at h
  have e1 : IntKind.i64.min = -9223372036854775808 := by rfl
  have e2 : IntKind.i64.max = 9223372036854775807 := by rfl
  rw [e1, e2] at h
  exact h
section
variable {H : Type} {enc : TypeId × Value → H} {W : World}
theorem in_openV {fuel : Nat} {v0 v1 v2 v3 v4 v5 : Value} {y : DataW H × List MemPlace} (h : DataW.trod enc Tryz.prog W 0 (fun _ => true) true fuel 50 [v0, v1, v2, v3, v4, v5] = some y) : ∃ x : In, bd64 x.v ∧ v0 = .int .i64 x.d ∧ v1 = .int .i64 x.a ∧ v2 = .int .i64 x.b ∧ v3 = .int .i64 x.c ∧ v4 = .int .i64 x.n ∧ v5 = .int .i64 x.v := by
  obtain ⟨xs, n, _, _, _, hxl, hf⟩ := DataW.trod_struct Tryz.underlying50 h
  match xs, hxl with
  | [x0, x1, x2, x3, x4, x5], _ =>
    have g0 := hf 0 _ rfl
    have g1 := hf 1 _ rfl
    have g2 := hf 2 _ rfl
    have g3 := hf 3 _ rfl
    have g4 := hf 4 _ rfl
    have g5 := hf 5 _ rfl
    simp [cellsInt1, cellsInt64, List.drop, List.take] at g0 g1 g2 g3 g4 g5
    obtain ⟨A, e0, _⟩ := DataW.trod_int Tryz.underlying3 g0
    obtain ⟨B, e1, _⟩ := DataW.trod_int Tryz.underlying3 g1
    obtain ⟨C, e2, _⟩ := DataW.trod_int Tryz.underlying3 g2
    obtain ⟨D, e3, _⟩ := DataW.trod_int Tryz.underlying3 g3
    obtain ⟨E, e4, _⟩ := DataW.trod_int Tryz.underlying3 g4
    obtain ⟨F, e5, _, e6⟩ := DataW.trod_int Tryz.underlying2 g5
    exact ⟨⟨A, B, C, D, E, F⟩, wf_bd e6, by simpa using e0, by simpa using e1, by simpa using e2, by simpa using e3, by simpa using e4, by simpa using e5⟩
theorem inss_openV {fuel : Nat} {v : Value} {y : DataW H × List MemPlace} (h : DataW.trod enc Tryz.prog W 0 (fun _ => true) true fuel 22 [v] = some y) : ∃ (a : Option Addr) (len cap : Nat) (ls : List In), v = .slice a len cap ∧ Inss W a len ls ∧ len ≤ cap ∧ VOk ls := by
  rcases open_slice Tryz.underlying22 h with ⟨hcs, _⟩ | ⟨x, l, c, m, n, D, Pl, hcs, _, hl, hm, hmm, hy, hx⟩
  · exact ⟨none, 0, 0, [], by simpa using hcs, ⟨rfl, by omega, .inl rfl⟩, Nat.le_refl _, fun k hk => by simp at hk⟩
  · have hmc : m = c := by simpa using hmm
    rw [cellsIns] at hx
    have hch : ∀ i : Nat, ∃ u : In, i < l → bd64 u.v ∧ W.cell? (x.add (i * 6)) = some (.int .i64 u.d) ∧ W.cell? (x.add (i * 6 + 1)) = some (.int .i64 u.a) ∧ W.cell? (x.add (i * 6 + 2)) = some (.int .i64 u.b) ∧ W.cell? (x.add (i * 6 + 3)) = some (.int .i64 u.c) ∧ W.cell? (x.add (i * 6 + 4)) = some (.int .i64 u.n) ∧ W.cell? (x.add (i * 6 + 5)) = some (.int .i64 u.v) := fun i => by
      by_cases hi : i < l
      · obtain ⟨cs, g1, g2⟩ := hx i (by omega)
        obtain ⟨_, hlen, hcell⟩ := World.cells?_some g1
        match cs, hlen with
        | [v0, v1, v2, v3, v4, v5], _ =>
          obtain ⟨u, eb, e0, e1, e2, e3, e4, e5⟩ := in_openV g2
          have c0 := hcell 0 (by omega)
          have c1 := hcell 1 (by omega)
          have c2 := hcell 2 (by omega)
          have c3 := hcell 3 (by omega)
          have c4 := hcell 4 (by omega)
          have c5 := hcell 5 (by omega)
          rw [add_add] at c0 c1 c2 c3 c4 c5
          exact ⟨u, fun _ => ⟨eb, by simpa [e0] using c0, by simpa [e1] using c1, by simpa [e2] using c2, by simpa [e3] using c3, by simpa [e4] using c4, by simpa [e5] using c5⟩⟩
      · exact ⟨inD, fun hh => absurd hh hi⟩
    obtain ⟨f, hf⟩ := Classical.axiomOfChoice hch
    refine ⟨some x, l, c, (List.range l).map f, by simpa using hcs, ⟨by simp, by unfold maxLen at hm; omega, ?_⟩, by omega, fun k hk => ?_⟩
    rotate_left
    · have hkl : k < l := by simpa using hk
      have : getI ((List.range l).map f) k = f k := by unfold getI; simp [hkl]
      rw [this]
      exact (hf k hkl).1
    by_cases h0 : l = 0
    · exact .inl h0
    · obtain ⟨b, off, spot⟩ := x
      have hspot : spot = none := by
        obtain ⟨_, g1, _⟩ := hf 0 (by omega)
        simpa [Addr.add] using World.cell?_spot g1
      subst hspot
      refine .inr ⟨b, off, rfl, fun j hj => ?_⟩
      obtain ⟨_, g0, g1, g2, g3, g4, g5⟩ := hf j hj
      rw [Go.WideShapes.add_plain] at g0 g1 g2 g3 g4 g5
      have ej : ((List.range l).map f)[j]?.getD inD = f j := by simp [hj]
      rw [ej]
      exact ⟨g0, by rw [Nat.add_assoc]; exact g1, by rw [Nat.add_assoc]; exact g2, by rw [Nat.add_assoc]; exact g3, by rw [Nat.add_assoc]; exact g4, by rw [Nat.add_assoc]; exact g5⟩
theorem row_int64 {fuel : Nat} {v : Value} {y : DataW H × List MemPlace} (h : DataW.trod enc Tryz.prog W 0 (fun _ => true) true fuel 25 [v] = some y) : ∃ (a : Option Addr) (len cap : Nat) (xs : List Int), v = .slice a len cap ∧ Ints W a len xs := by
  rcases open_ints Tryz.underlying25 Tryz.underlying2 (by kernel_rfl) h with ⟨hcs, _⟩ | ⟨x, l, c, zs, hcs, _, hl, hm, hz, _, hcell, hwz⟩
  · exact ⟨none, 0, 0, [], by simpa using hcs, rfl, by omega, by simp, .inl rfl⟩
  · exact ⟨some x, l, c, zs.take l, by simpa using hcs, ints_of_row (cap := c) (.inr ⟨x, rfl, hl, hm, by simpa using hz, hcell, hwz⟩)⟩
theorem bytesInt13 : Tryz.prog.bytesOf 3 = 8 := by kernel_rfl
theorem row_int_sz {fuel : Nat} {v : Value} {y : DataW H × List MemPlace} (h : DataW.trod enc Tryz.prog W 0 (fun _ => true) true fuel 26 [v] = some y) (hw : ∀ n ∈ y.1.weights Tryz.prog 26, n ≤ reachBytes) : ∃ (a : Option Addr) (len cap : Nat) (xs : List Int), v = .slice a len cap ∧ Ints W a len xs ∧ len * 8 ≤ 140737488355328 := by
  rcases open_ints Tryz.underlying26 Tryz.underlying3 (by kernel_rfl) h with ⟨hcs, _⟩ | ⟨x, l, c, zs, hcs, _, hl, hm, hz, hy, hcell, hwz⟩
  · exact ⟨none, 0, 0, [], by simpa using hcs, ⟨rfl, by omega, by simp, .inl rfl⟩, by omega⟩
  · refine ⟨some x, l, c, zs.take l, by simpa using hcs, ints_of_row (cap := c) (.inr ⟨x, rfl, hl, hm, by simpa using hz, hcell, hwz⟩), ?_⟩
    have hz' : zs.length = c := by simpa using hz
    rw [hy] at hw
    simp only [DataW.weights] at hw
    rw [Tryz.underlying26] at hw
    have h1 := hw _ (List.mem_cons_self ..)
    rw [bytesInt13] at h1
    simp [lits, reachBytes] at h1
    omega
end
end Go.Proofs.YtoabffmiedbkkaaGreat.V
