/-
  ArrayCuts: the frame of the second form, and its claim.
-/
import Derived.Test.YteoobeldmicjhaaGreatRows
import Derived.WalkKit
import Derived.ProofKit
import Derived.OpenShut
import Derived.ShutString
import Derived.ChangeOld
import Derived.Below
import Derived.Lib.SmallJoins
import Derived.Deep.Slices
import Derived.JoinedCond
import Derived.Deep.SlicePairs
import Derived.Test.YteoobeldmicjhaaGreatPCKArrayCuts52
namespace Go.Proofs.YteoobeldmicjhaaGreat.arrayCuts
open Go.ChangeShapes Go.WideShapes Go.ChangeAt Go.RowKit Go.Joins Go.Deep
set_option linter.unusedVariables false

theorem own : ownKnob Tryz.prog.godebug = none := by kernel_rfl
theorem laidOut : laidOutB Tryz.prog = true := by kernel_rfl
theorem cellsA : Tryz.prog.cellsOf 25 = 2 := by kernel_rfl

theorem bulk_pos {H : Type} (d : DataW H) : 1 ≤ Rows.uptoBulk d := by
  cases d with
  | lit l => cases l <;> simp [Rows.uptoBulk]
  | nil => simp [Rows.uptoBulk]
  | ptr d => simp [Rows.uptoBulk]
  | slice elems spare => simp [Rows.uptoBulk]
  | agg parts => simp [Rows.uptoBulk]
  | iface t d => simp [Rows.uptoBulk]
  | map entries => simp [Rows.uptoBulk]
  | held h => simp [Rows.uptoBulk]
theorem bulk_len {H : Type} : ∀ l : List (DataW H), l.length ≤ Rows.uptoBulkAll l
  | [] => by simp
  | x :: r => by
    have h1 := bulk_pos x
    have h2 := bulk_len r
    simp only [Rows.uptoBulkAll, List.length_cons]
    omega

section
variable {H : Type} {enc : TypeId × Value → H} {W : World}

theorem lst_open {fuel : Nat} {v : Value} {y : DataW H × List MemPlace} (h : DataW.trod enc Tryz.prog W 0 (fun _ => true) true fuel 22 [v] = some y) : ∃ a len cap zs, v = .slice a len cap ∧ V.Lst W a len cap zs ∧ len ≤ Rows.uptoBulk y.1 := by
  rcases open_ints Tryz.underlying22 Tryz.underlying3 (by kernel_rfl) h with ⟨hcs, hx⟩ | ⟨x, l, c, zs, hcs, _, hl, hm, hz, hx, hcell, hwz⟩
  · exact ⟨none, 0, 0, [], by simpa using hcs, ⟨⟨rfl, by omega, by simp, .inl rfl⟩, Nat.le_refl _, fun _ => rfl⟩, Nat.zero_le _⟩
  · have hz' : zs.length = c := by simpa using hz
    refine ⟨some x, l, c, zs.take l, by simpa using hcs, ⟨V.ints_of_row (.inr ⟨x, rfl, hl, hm, hz', hcell, hwz⟩), hl, fun e => by cases e⟩, ?_⟩
    rw [hx]
    have h1 := bulk_len (H := H) (lits .i64 (zs.take l))
    have h2 : (lits (H := H) .i64 (zs.take l)).length = l := by simp [lits]; omega
    simp only [Rows.uptoBulk]
    omega

theorem words_open {fuel : Nat} {v : Value} {y : DataW H × List MemPlace} (h : DataW.trod enc Tryz.prog W 0 (fun _ => true) true fuel 23 [v] = some y) : ∃ a len cap zs, v = .slice a len cap ∧ V.Ints W a len zs ∧ len ≤ cap := by
  rcases open_ints Tryz.underlying23 Tryz.underlying2 (by kernel_rfl) h with ⟨hcs, hx⟩ | ⟨x, l, c, zs, hcs, _, hl, hm, hz, hx, hcell, hwz⟩
  · exact ⟨none, 0, 0, [], by simpa using hcs, ⟨rfl, by omega, by simp, .inl rfl⟩, Nat.le_refl _⟩
  · have hz' : zs.length = c := by simpa using hz
    exact ⟨some x, l, c, zs.take l, by simpa using hcs, V.ints_of_row (.inr ⟨x, rfl, hl, hm, hz', hcell, hwz⟩), hl⟩

theorem arrs_open {fuel : Nat} {v : Value} {y : DataW H × List MemPlace} (h : DataW.trod enc Tryz.prog W 0 (fun _ => true) true fuel 32 [v] = some y) : ∃ (ma : Option Addr) (q mc : Nat) (vm : Nat → V.ArrV) (zs : Nat → List Int), v = .slice ma q mc ∧ (q = 0 ∨ ∃ b off, ma = some ⟨b, off, none⟩ ∧ ∀ j, j < q → (W.cell? ⟨b, off + j * 2, none⟩ = some (vm j).d ∧ W.cell? ⟨b, off + j * 2 + 1, none⟩ = some (vm j).x) ∧ V.Lst W (vm j).da (vm j).dl (vm j).dc (vm j).ds) ∧ (ma = none → q = 0 ∧ mc = 0) ∧ (∀ j, j < q → V.Ints W (vm j).xa (vm j).xl (zs j) ∧ (vm j).xl ≤ (vm j).xc) ∧ q ≤ Rows.uptoBulk y.1 := by
  rcases open_slice_pairs Tryz.underlying32 Tryz.underlying25 cellsA rfl rfl (by kernel_rfl) (by kernel_rfl) h with ⟨hcs, hx⟩ | ⟨x, l, c, m, n, V0, V1, D0, D1, P0, P1, hcs, _, hl, hm, hmm, hx, hel⟩
  · exact ⟨none, 0, 0, fun _ => ⟨none, 0, 0, [], none, 0, 0⟩, fun _ => [], by simpa using hcs, .inl rfl, fun _ => ⟨rfl, rfl⟩, fun j h => by omega, Nat.zero_le _⟩
  · have hmc : m = c := by simpa using hmm
    have hch : ∀ i : Nat, ∃ u : V.ArrV × List Int, i < l → V0 i = u.1.d ∧ V1 i = u.1.x ∧ V.Lst W u.1.da u.1.dl u.1.dc u.1.ds ∧ V.Ints W u.1.xa u.1.xl u.2 ∧ u.1.xl ≤ u.1.xc := fun i => by
      by_cases hi : i < l
      · obtain ⟨a', l', c', zs, e1, e2, _⟩ := lst_open (hel i (by omega)).2.2.1
        obtain ⟨a2, l2, c2, zs2, g1, g2, g3⟩ := words_open (hel i (by omega)).2.2.2
        exact ⟨(⟨a', l', c', zs, a2, l2, c2⟩, zs2), fun _ => ⟨e1, g1, e2, g2, g3⟩⟩
      · exact ⟨(⟨none, 0, 0, [], none, 0, 0⟩, []), fun hh => absurd hh hi⟩
    obtain ⟨f, hf⟩ := Classical.axiomOfChoice hch
    refine ⟨some x, l, c, fun i => (f i).1, fun i => (f i).2, by simpa using hcs, ?_, (fun e => absurd e (by simp)), fun j hj => (hf j hj).2.2.2, ?_⟩
    · by_cases h0 : l = 0
      · exact .inl h0
      · obtain ⟨b, off, spot⟩ := x
        have hspot : spot = none := by simpa [Addr.add] using World.cell?_spot (hel 0 (by omega)).1
        subst hspot
        refine .inr ⟨b, off, rfl, fun j hj => ?_⟩
        obtain ⟨e1, e2, e3, _⟩ := hf j hj
        have c0 := (hel j (by omega)).1
        have c1 := (hel j (by omega)).2.1
        rw [e1, Go.WideShapes.add_plain] at c0
        rw [e2, Go.WideShapes.add_plain, ← Nat.add_assoc] at c1
        exact ⟨⟨c0, c1⟩, e3⟩
    · rw [hx]
      have h1 := bulk_len ((List.range l).map fun i => DataW.agg [D0 i, D1 i])
      simp only [List.length_map, List.length_range] at h1
      simp only [Rows.uptoBulk]
      omega
end

set_option maxRecDepth 100000 in
set_option maxHeartbeats 1000000 in
theorem lifted (os : Os) (started : os.Started) (H : Type) (enc : TypeId × Value → H) (F : Stop.Interp) :
    ReturnsInHanded {} Tryz.checked os 4 .any ((Rows.OpenSpec.upto Rows.arrayCutsSpec).pre6 enc Tryz.prog Tryz.f4 Rows.arrayCutsUptoRow.domain false) (((Rows.OpenSpec.upto Rows.arrayCutsSpec).at F).post enc Tryz.prog Tryz.f4 false true false false) := by
  refine returnsInHanded_of_cond (C := Tryz.checked) (s := Rows.OpenSpec.upto Rows.arrayCutsSpec) (k := Rows.uptoSmall) rfl own started (by kernel_rfl) Tryz.func4
    (OpenSpec.witness (enc := enc) (C := Tryz.checked) (s := Rows.OpenSpec.upto Rows.arrayCutsSpec) (k := Rows.uptoSmall) rfl false ⟨#[], #[.slice none 0 0, .int .i64 0], []⟩ 8 (by kernel_rfl) (by kernel_rfl) (by kernel_rfl)
      (x := ([.nil, .lit (.int .i64 0)], [], [])) (by kernel_rfl) rfl (by kernel_rfl)) ?_
  intro W base args ds gs before hval0 hW _ hk _
  have hval : ∀ (j : Nat) t v, Tryz.f4.params[j]? = some t → args[j]? = some v → Value.okWide Tryz.prog W .any base t v := hval0
  have hW' := hW
  obtain ⟨p, q, hA0, hV, rfl, hfz, hnd⟩ := hW
  have hA : DataW.TrodAll enc Tryz.prog W 0 (fun _ => true) true Tryz.f4.params.toList args.toList ds p := hA0
  rw [Tryz.params4] at hA hval
  obtain ⟨v0, vs0, d0, ds0, p0, q0, hargs, rfl, rfl, h0, r0⟩ := trodAll_cons hA
  obtain ⟨v1, vs1, d1, ds1, p1, q1, rfl, rfl, rfl, h1, r1⟩ := trodAll_cons r0
  obtain ⟨rfl, rfl, rfl⟩ := trodAll_nil r1
  obtain rfl : args = #[v0, v1] := by cases args; simp_all
  obtain ⟨rfl, rfl⟩ := trodVars_none hV
  have k0 := h0
  have lt0 : ∀ x ∈ p0, x.block < W.heap.size := by obtain ⟨m, hm⟩ := k0; exact DataW.trod_lt m _ _ _ hm
  have k1 := h1
  have lt1 : ∀ x ∈ p1, x.block < W.heap.size := by obtain ⟨m, hm⟩ := k1; exact DataW.trod_lt m _ _ _ hm
  have hbulk : Rows.uptoBulk d0 + (Rows.uptoBulk d1 + 0) ≤ 1048576 := by
    have hb := of_decide_eq_true hk
    simp only [List.append_nil, Rows.uptoBulkAll] at hb
    exact hb
  obtain ⟨s1, rfl⟩ := okWide_int Tryz.underlying3 (hval 1 3 v1 rfl rfl)
  obtain ⟨fuel1, hf1⟩ := h1
  obtain ⟨s1', es1, _, x1⟩ := DataW.trod_int Tryz.underlying3 hf1
  obtain rfl : s1 = s1' := by simpa [Value.cells] using es1
  obtain ⟨A, len, cap, rfl⟩ := okWide_slice Tryz.underlying32 (hval 0 32 v0 rfl rfl)
  obtain ⟨fuel3, hf3⟩ := h0
  obtain ⟨ma, q, mc, vm, zs, ev, M1, M2, M3, BS⟩ := arrs_open (v := .slice A len cap) hf3
  obtain ⟨rfl, rfl, rfl⟩ : ma = A ∧ q = len ∧ mc = cap := by cases ev; exact ⟨rfl, rfl, rfl⟩
  have BS1 : q ≤ Rows.uptoBulk d0 := BS
  clear hA0 hval0
  refine (V.arrayCuts_walk ma q mc vm zs s1 W (bounds_i64 x1) (M1.imp id (fun ⟨b, off, e, h⟩ => ⟨b, off, e, fun j hj => ⟨(h j hj).1.1, (h j hj).1.2, (h j hj).2⟩⟩)) (fun j hj => (M3 j hj).1) (fun j hj => (M3 j hj).2) (by omega)).mono fun e W' ⟨he, bel⟩ => ?_
  subst he
  exact ⟨_, rfl, _, _, _, [], _, [], hW', trodAll_mk1 (shut_bool Tryz.underlying4 _), (trodAll_cons_mk (Below.trod laidOut (by kernel_rfl) (of_decide_eq_true (by kernel_rfl)) k0 bel lt0) (trodAll_cons_mk (Below.trod laidOut (by kernel_rfl) (of_decide_eq_true (by kernel_rfl)) k1 bel lt1) trodAll_mk0)), rfl, bel.frame _, fun h => by cases h⟩

theorem over : Rows.arrayCutsUptoRow.holds Tryz.pinned (Rows.OpenSpec.upto Rows.arrayCutsSpec) :=
  OpenClaim.holds_of_cond 4 Tryz.f4 rfl rfl rfl rfl rfl rfl rfl ⟨rfl, rfl, rfl, rfl, rfl⟩ rfl rfl rfl rfl rfl (by kernel_rfl) Tryz.func4 (by kernel_rfl)
    (of_decide_eq_true (by kernel_rfl)) (by unfold Func.isWrapper; first | (rw [if_pos (by decide +kernel)]; kernel_rfl) | (rw [if_neg (by decide +kernel)]; exact ⟨rfl, rfl⟩))
    (fun os started H enc _ F => lifted os started H enc F)

theorem proved : Rows.ArrayCutsUptoSaid := over
#print axioms proved
end Go.Proofs.YteoobeldmicjhaaGreat.arrayCuts

namespace Go.Proofs.YteoobeldmicjhaaGreat
theorem arrayCuts_holds : Rows.ArrayCutsUptoSaid := arrayCuts.proved
end Go.Proofs.YteoobeldmicjhaaGreat
