/-
  Scripts among the arguments, and their sizes.
-/
import Derived.Test.YticcoacoepajpaaPK44
import Derived.Test.YticcoacoepajpaaPK28
import Derived.OpenShut
namespace Go.Proofs.Yticcoacoepajpaa.V
open Go.RowKit Go.Deep Go.ChangeShapes Go.WideShapes
set_option linter.unusedVariables false
set_option linter.unusedSimpArgs false

theorem wAll_mem {H : Type} {P : Program} {e : TypeId} {d : DataW H} {n : Nat} : ∀ {l : List (DataW H)}, d ∈ l → n ∈ d.weights P e → n ∈ DataW.weightsAll P e l
  | x :: r, h, hn => by
    simp only [DataW.weightsAll, List.mem_append]
    rcases List.mem_cons.1 h with rfl | h
    · exact .inl hn
    · exact .inr (wAll_mem h hn)
theorem bytesStep : Try.prog.bytesOf 45 = 72 := by kernel_rfl
theorem bytesI64 : Try.prog.bytesOf 2 = 8 := by kernel_rfl
theorem bytesL64 : Try.prog.bytesOf 24 = 24 := by kernel_rfl
theorem cellsStep : Try.prog.cellsOf 45 = 7 := by kernel_rfl
theorem cellsNote : Try.prog.cellsOf 39 = 4 := by kernel_rfl
theorem cellsI : Try.prog.cellsOf 3 = 1 := by kernel_rfl
section
variable {H : Type} {enc : TypeId × Value → H} {W : World}
theorem ints64_open {fuel : Nat} {v : Value} {y : DataW H × List MemPlace} (h : DataW.trod enc Try.prog W 0 (fun _ => true) true fuel 24 [v] = some y) (hw : ∀ n ∈ y.1.weights Try.prog 24, n ≤ reachBytes) : ∃ (a : Option Addr) (len cap : Nat) (xs : List Int), v = .slice a len cap ∧ Ints W a len xs ∧ len ≤ cap ∧ len * 8 ≤ reachBytes := by
  rcases open_ints Try.underlying24 Try.underlying2 (by kernel_rfl) h with ⟨hcs, hx⟩ | ⟨x, l, c, zs, hcs, _, hl, hm, hz, hx, hcell, hwz⟩
  · exact ⟨none, 0, 0, [], by simpa using hcs, ⟨rfl, Nat.zero_le _, by simp, .inl rfl⟩, Nat.le_refl _, by simp⟩
  · have hz' : zs.length = c := by simpa using hz
    refine ⟨some x, l, c, zs.take l, by simpa using hcs, ints_of_row (cap := c) (.inr ⟨x, rfl, hl, hm, hz', hcell, hwz⟩), hl, ?_⟩
    rw [hx] at hw
    simp only [DataW.weights] at hw
    rw [Try.underlying24] at hw
    have h1 := hw _ (List.mem_cons_self ..)
    rw [bytesI64] at h1
    have h2 : (lits (H := H) .i64 (zs.take l)).length = l := by simp [lits]; omega
    rw [h2, Nat.add_mul] at h1
    omega
theorem ls_sized {fuel : Nat} {a : Option Addr} {len cap : Nat} {y : DataW H × List MemPlace} (h : DataW.trod enc Try.prog W 0 (fun _ => true) true fuel 22 [.slice a len cap] = some y) (hw : ∀ n ∈ y.1.weights Try.prog 22, n ≤ reachBytes) : len * 24 ≤ reachBytes := by
  rcases open_slice Try.underlying22 h with ⟨hcs, _⟩ | ⟨x, l, c, m, n, D, Pl, hcs, _, hl, hm, hmm, hyx, hx⟩
  · have e : len = 0 := by simp at hcs; exact hcs.2.1
    omega
  · have e : len = l := by simp at hcs; exact hcs.2.1
    rw [hyx] at hw
    simp only [DataW.weights] at hw
    rw [Try.underlying22] at hw
    have h1 := hw _ (List.mem_cons_self ..)
    rw [bytesL64, Nat.add_mul] at h1
    simp only [List.length_map, List.length_range] at h1
    omega
theorem step_open {fuel : Nat} {cs : List Value} {y : DataW H × List MemPlace} (h : DataW.trod enc Try.prog W 0 (fun _ => true) true fuel 45 cs = some y) (hlen : cs.length = 7) (hb : ∀ n ∈ y.1.weights Try.prog 45, n ≤ reachBytes) : ∃ (p : Stp) (X : Option Addr) (m c : Nat), cs = [.int .i64 p.act, .int .i64 p.mem, .int .i64 p.num, .int .i64 p.nt.fr, .int .i64 p.nt.to, .int .i64 p.nt.st, .slice X m c] ∧ Ints W X m p.nt.data ∧ m ≤ c ∧ m * 8 ≤ reachBytes := by
  match cs, hlen with
  | [v0, v1, v2, v3, v4, v5, v6], _ =>
    obtain ⟨xs, n, _, hyx, _, hxl, hf⟩ := DataW.trod_struct Try.underlying45 h
    match xs, hxl with
    | [x0, x1, x2, x3], _ =>
      have g0 := hf 0 _ rfl
      have g1 := hf 1 _ rfl
      have g2 := hf 2 _ rfl
      have g3 := hf 3 _ rfl
      simp [cellsNote, cellsI, List.drop, List.take] at g0 g1 g2 g3
      obtain ⟨ys, n', _, hyy, _, hyl, hg⟩ := DataW.trod_struct Try.underlying39 g3
      match ys, hyl with
      | [y0, y1, y2, y3], _ =>
        have k0 := hg 0 _ rfl
        have k1 := hg 1 _ rfl
        have k2 := hg 2 _ rfl
        have k3 := hg 3 _ rfl
        simp [cellsI, cellsInts64, List.drop, List.take] at k0 k1 k2 k3
        obtain ⟨a0, e0, _, _⟩ := DataW.trod_int Try.underlying3 g0
        obtain ⟨a1, e1, _, _⟩ := DataW.trod_int Try.underlying3 g1
        obtain ⟨a2, e2, _, _⟩ := DataW.trod_int Try.underlying3 g2
        obtain ⟨a3, e3, _, _⟩ := DataW.trod_int Try.underlying3 k0
        obtain ⟨a4, e4, _, _⟩ := DataW.trod_int Try.underlying3 k1
        obtain ⟨a5, e5, _, _⟩ := DataW.trod_int Try.underlying3 k2
        have hw3 : ∀ n ∈ y3.1.weights Try.prog 24, n ≤ reachBytes := fun n hn => by
          refine hb n ?_
          rw [hyx]
          unfold DataW.weights
          rw [Try.underlying45]
          refine DataW.weights_mem_each (j := 3) (t := 39) (d := x3.1) rfl rfl n ?_
          rw [hyy]
          unfold DataW.weights
          rw [Try.underlying39]
          exact DataW.weights_mem_each (j := 3) (t := 24) (d := y3.1) rfl rfl n hn
        obtain ⟨X, m, c, zs, e6, w6, hc6, b6⟩ := ints64_open k3 hw3
        refine ⟨⟨a0, a1, a2, ⟨a3, a4, a5, zs⟩⟩, X, m, c, ?_, w6, hc6, b6⟩
        simp at e0 e1 e2 e3 e4 e5
        simp [e0, e1, e2, e3, e4, e5, e6]
theorem steps_open {fuel : Nat} {v : Value} {y : DataW H × List MemPlace} (h : DataW.trod enc Try.prog W 0 (fun _ => true) true fuel 23 [v] = some y) (hb : ∀ n ∈ y.1.weights Try.prog 23, n ≤ reachBytes) : ∃ (a : Option Addr) (cap : Nat) (l : List Stp), v = .slice a l.length cap ∧ (l = [] ∨ ∃ sb soff, a = some ⟨sb, soff, none⟩ ∧ ScA W W.heap.size sb soff l) ∧ l.length * 72 ≤ reachBytes := by
  rcases open_slice Try.underlying23 h with ⟨hcs, _⟩ | ⟨x, l, c, m, n, D, Pl, hcs, _, hl, hm, hmm, hyx, hx⟩
  · exact ⟨none, 0, [], by simpa using hcs, .inl rfl, by simp⟩
  · have hmc : m = c := by simpa using hmm
    rw [cellsStep] at hx
    rw [hyx] at hb
    simp only [DataW.weights] at hb
    rw [Try.underlying23] at hb
    have hbl := hb _ (List.mem_cons_self ..)
    rw [bytesStep, Nat.add_mul] at hbl
    simp only [List.length_map, List.length_range] at hbl
    have hch : ∀ i : Nat, ∃ p : Stp, i < l → ∃ X m c, (Ints W X m p.nt.data ∧ m ≤ c ∧ m * 8 ≤ reachBytes) ∧ ∀ j, j < 7 → W.cell? (x.add (i * 7 + j)) = [.int .i64 p.act, .int .i64 p.mem, .int .i64 p.num, .int .i64 p.nt.fr, .int .i64 p.nt.to, .int .i64 p.nt.st, .slice X m c][j]? := fun i => by
      by_cases hi : i < l
      · obtain ⟨cs, g1, g2⟩ := hx i (by omega)
        obtain ⟨_, hlen, hcell⟩ := World.cells?_some g1
        obtain ⟨p, X, m', c', e, hg⟩ := step_open g2 hlen (fun n hn => hb n (List.mem_cons_of_mem _ (List.mem_append_left _ (wAll_mem (List.mem_map.2 ⟨i, by simpa using hi, rfl⟩) hn))))
        refine ⟨p, fun _ => ⟨X, m', c', hg, fun j hj => ?_⟩⟩
        have := hcell j hj
        rw [add_add, e] at this
        rw [this]
      · exact ⟨⟨0, 0, 0, ⟨0, 0, 0, []⟩⟩, fun hh => absurd hh hi⟩
    obtain ⟨f, hf⟩ := Classical.axiomOfChoice hch
    refine ⟨some x, c, (List.range l).map f, by simpa using hcs, ?_, by simp; omega⟩
    by_cases h0 : l = 0
    · subst h0
      exact .inl rfl
    · obtain ⟨b, off, spot⟩ := x
      have hspot : spot = none := by
        obtain ⟨_, _, _, _, g1⟩ := hf 0 (by omega)
        have := g1 0 (by omega)
        simp only [List.getElem?_cons_zero] at this
        simpa [Addr.add] using World.cell?_spot this
      subst hspot
      refine .inr ⟨b, off, rfl, fun k p hk => ?_⟩
      have hkl : k < l := by have := (List.getElem?_eq_some_iff.1 hk).1; simpa using this
      have ek : p = f k := by simpa [hkl] using hk.symm
      subst ek
      obtain ⟨X, m', c', ⟨w1, w2, w3⟩, g⟩ := hf k hkl
      have gg : ∀ i, i < 7 → W.cell? ⟨b, off + k * 7 + i, none⟩ = [.int .i64 (f k).act, .int .i64 (f k).mem, .int .i64 (f k).num, .int .i64 (f k).nt.fr, .int .i64 (f k).nt.to, .int .i64 (f k).nt.st, .slice X m' c'][i]? := fun i hi => by
        have := g i hi
        rw [Go.WideShapes.add_plain, ← Nat.add_assoc] at this
        exact this
      refine ⟨X, m', c', gg 0 (by omega), gg 1 (by omega), gg 2 (by omega), gg 3 (by omega), gg 4 (by omega), gg 5 (by omega), gg 6 (by omega), w1, w2, by simp only [reachBytes] at w3; omega, fun b' o e hm0 => ?_⟩
      obtain ⟨b2, o2, e2, _, hc⟩ := w1.at hm0
      rw [e2] at e
      cases e
      have := hc 0 hm0
      exact lt_of_cell this
end
end Go.Proofs.Yticcoacoepajpaa.V
