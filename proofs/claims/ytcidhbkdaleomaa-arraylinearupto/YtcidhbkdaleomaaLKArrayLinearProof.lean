/-
  ArrayLinear: the frame of the second form, and its claim.
-/
import Derived.Test.YtcidhbkdaleomaaRows
import Derived.WalkKit
import Derived.ProofKit
import Derived.OpenShut
import Derived.ShutString
import Derived.ChangeOld
import Derived.Below
import Derived.Lib.SmallJoins
import Derived.Deep.Slices
import Derived.JoinedCond
import Derived.Deep.SlicePairs
import Derived.Test.YtcidhbkdaleomaaLK48L
namespace Go.Proofs.Ytcidhbkdaleomaa.arrayLinear
open Go.ChangeShapes Go.WideShapes Go.ChangeAt Go.RowKit Go.Joins Go.Deep
set_option linter.unusedVariables false

theorem own : ownKnob Try.prog.godebug = none := by kernel_rfl
theorem laidOut : laidOutB Try.prog = true := by kernel_rfl
theorem cellsO : Try.prog.cellsOf 24 = 7 := by kernel_rfl
theorem cellsA : Try.prog.cellsOf 28 = 2 := by kernel_rfl

theorem bulk_pos {H : Type} (d : DataW H) : 1 ≤ Rows.uptoBulk d := by
  cases d with
  | lit l => cases l <;> simp [Rows.uptoBulk]
  | nil => simp [Rows.uptoBulk]
  | ptr d => simp [Rows.uptoBulk]
  | slice elems spare => simp [Rows.uptoBulk]
  | agg parts => simp [Rows.uptoBulk]
  | iface t d => simp [Rows.uptoBulk]
  | map entries => simp [Rows.uptoBulk]
  | held h => simp [Rows.uptoBulk]
theorem bulk_len {H : Type} : ∀ l : List (DataW H), l.length ≤ Rows.uptoBulkAll l
  | [] => by simp
  | x :: r => by
    have h1 := bulk_pos x
    have h2 := bulk_len r
    simp only [Rows.uptoBulkAll, List.length_cons]
    omega

section
variable {H : Type} {enc : TypeId × Value → H} {W : World}

theorem array_seven {α : Type} {cs : Array α} (h : cs.size = 7) : ∃ c0 c1 c2 c3 c4 c5 c6, cs = #[c0, c1, c2, c3, c4, c5, c6] := by
  obtain ⟨l⟩ := cs
  match l, h with
  | [c0, c1, c2, c3, c4, c5, c6], _ => exact ⟨c0, c1, c2, c3, c4, c5, c6, rfl⟩

theorem open_seven {base : Nat} {spare : Nat → Bool} {held : Bool} {P : Program} {r : Reach} {b0 : Nat} {t : TypeId} {f0 f1 f2 f3 f4 f5 f6 : Field} {v : Value} {d : DataW H} {p : List MemPlace} (hs : P.underlying t = some (.struct #[f0, f1, f2, f3, f4, f5, f6])) (hone : oneCellFields P #[f0, f1, f2, f3, f4, f5, f6] = true) (hC : P.cellsOf t = 7)
    (hv : Value.okWide P W r b0 t v) (h : DataW.Trod enc P W base spare held t v d p) :
    ∃ (v0 v1 v2 v3 v4 v5 v6 : Value) (y0 y1 y2 y3 y4 y5 y6 : DataW H × List MemPlace) (n : Nat), v = .agg #[v0, v1, v2, v3, v4, v5, v6] ∧ d = .agg [y0.1, y1.1, y2.1, y3.1, y4.1, y5.1, y6.1] ∧
      DataW.trod enc P W base spare held n f0.type [v0] = some y0 ∧ DataW.trod enc P W base spare held n f1.type [v1] = some y1 ∧ DataW.trod enc P W base spare held n f2.type [v2] = some y2 ∧ DataW.trod enc P W base spare held n f3.type [v3] = some y3 ∧ DataW.trod enc P W base spare held n f4.type [v4] = some y4 ∧ DataW.trod enc P W base spare held n f5.type [v5] = some y5 ∧ DataW.trod enc P W base spare held n f6.type [v6] = some y6 := by
  obtain ⟨cs, rfl, hsz⟩ := okWide_struct hs hv
  obtain ⟨c0, c1, c2, c3, c4, c5, c6, rfl⟩ := array_seven (hsz.trans hC)
  obtain ⟨fuel, hf⟩ := h
  obtain ⟨xs, n, _, hx, hl, hlen, hfs⟩ := DataW.trod_struct hs hf
  match xs, hlen with
  | [y0, y1, y2, y3, y4, y5, y6], _ =>
    obtain ⟨o0, k0⟩ := hone_of hone 0 f0 rfl
    obtain ⟨o1, k1⟩ := hone_of hone 1 f1 rfl
    obtain ⟨o2, k2⟩ := hone_of hone 2 f2 rfl
    obtain ⟨o3, k3⟩ := hone_of hone 3 f3 rfl
    obtain ⟨o4, k4⟩ := hone_of hone 4 f4 rfl
    obtain ⟨o5, k5⟩ := hone_of hone 5 f5 rfl
    obtain ⟨o6, k6⟩ := hone_of hone 6 f6 rfl
    have h0 := hfs 0 f0 rfl
    have h1 := hfs 1 f1 rfl
    have h2 := hfs 2 f2 rfl
    have h3 := hfs 3 f3 rfl
    have h4 := hfs 4 f4 rfl
    have h5 := hfs 5 f5 rfl
    have h6 := hfs 6 f6 rfl
    simp only [Prod.mk.injEq] at hx
    refine ⟨c0, c1, c2, c3, c4, c5, c6, y0, y1, y2, y3, y4, y5, y6, n, rfl, by simpa using hx.1, ?_, ?_, ?_, ?_, ?_, ?_, ?_⟩
    · simpa [Value.cells, o0, k0] using h0
    · simpa [Value.cells, o1, k1] using h1
    · simpa [Value.cells, o2, k2] using h2
    · simpa [Value.cells, o3, k3] using h3
    · simpa [Value.cells, o4, k4] using h4
    · simpa [Value.cells, o5, k5] using h5
    · simpa [Value.cells, o6, k6] using h6

theorem lst_open {fuel : Nat} {v : Value} {y : DataW H × List MemPlace} (h : DataW.trod enc Try.prog W 0 (fun _ => true) true fuel 22 [v] = some y) : ∃ a len cap zs, v = .slice a len cap ∧ V.Lst W a len cap zs ∧ len ≤ Rows.uptoBulk y.1 := by
  rcases open_ints Try.underlying22 Try.underlying3 (by kernel_rfl) h with ⟨hcs, hx⟩ | ⟨x, l, c, zs, hcs, _, hl, hm, hz, hx, hcell, hwz⟩
  · exact ⟨none, 0, 0, [], by simpa using hcs, ⟨⟨rfl, by omega, by simp, .inl rfl⟩, Nat.le_refl _, fun _ => rfl⟩, Nat.zero_le _⟩
  · have hz' : zs.length = c := by simpa using hz
    refine ⟨some x, l, c, zs.take l, by simpa using hcs, ⟨V.ints_of_row (.inr ⟨x, rfl, hl, hm, hz', hcell, hwz⟩), hl, fun e => by cases e⟩, ?_⟩
    rw [hx]
    have h1 := bulk_len (H := H) (lits .i64 (zs.take l))
    have h2 : (lits (H := H) .i64 (zs.take l)).length = l := by simp [lits]; omega
    simp only [Rows.uptoBulk]
    omega

theorem words_open {fuel : Nat} {v : Value} {y : DataW H × List MemPlace} (h : DataW.trod enc Try.prog W 0 (fun _ => true) true fuel 26 [v] = some y) : ∃ a len cap zs, v = .slice a len cap ∧ V.Ints W a len zs ∧ len ≤ cap := by
  rcases open_ints Try.underlying26 Try.underlying2 (by kernel_rfl) h with ⟨hcs, hx⟩ | ⟨x, l, c, zs, hcs, _, hl, hm, hz, hx, hcell, hwz⟩
  · exact ⟨none, 0, 0, [], by simpa using hcs, ⟨rfl, by omega, by simp, .inl rfl⟩, Nat.le_refl _⟩
  · have hz' : zs.length = c := by simpa using hz
    exact ⟨some x, l, c, zs.take l, by simpa using hcs, V.ints_of_row (.inr ⟨x, rfl, hl, hm, hz', hcell, hwz⟩), hl⟩

theorem arrs_open {fuel : Nat} {v : Value} {y : DataW H × List MemPlace} (h : DataW.trod enc Try.prog W 0 (fun _ => true) true fuel 41 [v] = some y) : ∃ (ma : Option Addr) (q mc : Nat) (vm : Nat → V.ArrV) (zs : List Int), v = .slice ma q mc ∧ (q = 0 ∨ ∃ b off, ma = some ⟨b, off, none⟩ ∧ ∀ j, j < q → (W.cell? ⟨b, off + j * 2, none⟩ = some (vm j).d ∧ W.cell? ⟨b, off + j * 2 + 1, none⟩ = some (vm j).x) ∧ V.Lst W (vm j).da (vm j).dl (vm j).dc (vm j).ds) ∧ (ma = none → q = 0 ∧ mc = 0) ∧ (1 ≤ q → V.Ints W (vm 0).xa (vm 0).xl zs) ∧ q ≤ Rows.uptoBulk y.1 := by
  rcases open_slice_pairs Try.underlying41 Try.underlying28 cellsA rfl rfl (by kernel_rfl) (by kernel_rfl) h with ⟨hcs, hx⟩ | ⟨x, l, c, m, n, V0, V1, D0, D1, P0, P1, hcs, _, hl, hm, hmm, hx, hel⟩
  · exact ⟨none, 0, 0, fun _ => ⟨none, 0, 0, [], none, 0, 0⟩, [], by simpa using hcs, .inl rfl, fun _ => ⟨rfl, rfl⟩, fun h => by omega, Nat.zero_le _⟩
  · have hmc : m = c := by simpa using hmm
    have hch : ∀ i : Nat, ∃ u : V.ArrV × List Int, i < l → V0 i = u.1.d ∧ V1 i = u.1.x ∧ V.Lst W u.1.da u.1.dl u.1.dc u.1.ds ∧ V.Ints W u.1.xa u.1.xl u.2 := fun i => by
      by_cases hi : i < l
      · obtain ⟨a', l', c', zs, e1, e2, _⟩ := lst_open (hel i (by omega)).2.2.1
        obtain ⟨a2, l2, c2, zs2, g1, g2, _⟩ := words_open (hel i (by omega)).2.2.2
        exact ⟨(⟨a', l', c', zs, a2, l2, c2⟩, zs2), fun _ => ⟨e1, g1, e2, g2⟩⟩
      · exact ⟨(⟨none, 0, 0, [], none, 0, 0⟩, []), fun hh => absurd hh hi⟩
    obtain ⟨f, hf⟩ := Classical.axiomOfChoice hch
    refine ⟨some x, l, c, fun i => (f i).1, (f 0).2, by simpa using hcs, ?_, (fun e => absurd e (by simp)), fun h0 => (hf 0 (by omega)).2.2.2, ?_⟩
    · by_cases h0 : l = 0
      · exact .inl h0
      · obtain ⟨b, off, spot⟩ := x
        have hspot : spot = none := by simpa [Addr.add] using World.cell?_spot (hel 0 (by omega)).1
        subst hspot
        refine .inr ⟨b, off, rfl, fun j hj => ?_⟩
        obtain ⟨e1, e2, e3, e4⟩ := hf j hj
        have c0 := (hel j (by omega)).1
        have c1 := (hel j (by omega)).2.1
        rw [e1, Go.WideShapes.add_plain] at c0
        rw [e2, Go.WideShapes.add_plain, ← Nat.add_assoc] at c1
        exact ⟨⟨c0, c1⟩, e3⟩
    · rw [hx]
      have h1 := bulk_len ((List.range l).map fun i => DataW.agg [D0 i, D1 i])
      simp only [List.length_map, List.length_range] at h1
      simp only [Rows.uptoBulk]
      omega
end

set_option maxRecDepth 100000 in
set_option maxHeartbeats 1000000 in
theorem lifted (os : Os) (started : os.Started) (H : Type) (enc : TypeId × Value → H) (F : Stop.Interp) :
    ReturnsInHanded {} Try.checked os 6 .any ((Rows.OpenSpec.upto Rows.arrayLinearSpec).pre6 enc Try.prog Try.f6 Rows.arrayLinearUptoRow.domain false) (((Rows.OpenSpec.upto Rows.arrayLinearSpec).at F).post enc Try.prog Try.f6 false true false false) := by
  refine returnsInHanded_of_cond (C := Try.checked) (s := Rows.OpenSpec.upto Rows.arrayLinearSpec) (k := Rows.uptoSmall) rfl own started (by kernel_rfl) Try.func6
    (OpenSpec.witness (enc := enc) (C := Try.checked) (s := Rows.OpenSpec.upto Rows.arrayLinearSpec) (k := Rows.uptoSmall) rfl false ⟨#[], #[.agg #[.int .i64 0, .slice none 0 0, .slice none 0 0, .slice none 0 0, .slice none 0 0, .slice none 0 0, .int .i64 0], .agg #[.slice none 0 0, .slice none 0 0], .agg #[.slice none 0 0, .slice none 0 0], .slice none 0 0, .int .i64 0], []⟩ 8 (by kernel_rfl) (by kernel_rfl) (by kernel_rfl)
      (x := ([.agg [.lit (.int .i64 0), .nil, .nil, .nil, .nil, .nil, .lit (.int .i64 0)], .agg [.nil, .nil], .agg [.nil, .nil], .nil, .lit (.int .i64 0)], [], [])) (by kernel_rfl) rfl (by kernel_rfl)) ?_
  intro W base args ds gs before hval0 hW _ hk _
  have hval : ∀ (j : Nat) t v, Try.f6.params[j]? = some t → args[j]? = some v → Value.okWide Try.prog W .any base t v := hval0
  have hW' := hW
  obtain ⟨p, q, hA0, hV, rfl, hfz, hnd⟩ := hW
  have hA : DataW.TrodAll enc Try.prog W 0 (fun _ => true) true Try.f6.params.toList args.toList ds p := hA0
  rw [Try.params6] at hA hval
  obtain ⟨v0, vs0, d0, ds0, p0, q0, hargs, rfl, rfl, h0, r0⟩ := trodAll_cons hA
  obtain ⟨v1, vs1, d1, ds1, p1, q1, rfl, rfl, rfl, h1, r1⟩ := trodAll_cons r0
  obtain ⟨v2, vs2, d2, ds2, p2, q2, rfl, rfl, rfl, h2, r2⟩ := trodAll_cons r1
  obtain ⟨v3, vs3, d3, ds3, p3, q3, rfl, rfl, rfl, h3, r3⟩ := trodAll_cons r2
  obtain ⟨v4, vs4, d4, ds4, p4, q4, rfl, rfl, rfl, h4, r4⟩ := trodAll_cons r3
  obtain ⟨rfl, rfl, rfl⟩ := trodAll_nil r4
  obtain rfl : args = #[v0, v1, v2, v3, v4] := by cases args; simp_all
  obtain ⟨rfl, rfl⟩ := trodVars_none hV
  have k0 := h0
  have lt0 : ∀ x ∈ p0, x.block < W.heap.size := by obtain ⟨m, hm⟩ := k0; exact DataW.trod_lt m _ _ _ hm
  have k1 := h1
  have lt1 : ∀ x ∈ p1, x.block < W.heap.size := by obtain ⟨m, hm⟩ := k1; exact DataW.trod_lt m _ _ _ hm
  have k2 := h2
  have lt2 : ∀ x ∈ p2, x.block < W.heap.size := by obtain ⟨m, hm⟩ := k2; exact DataW.trod_lt m _ _ _ hm
  have k3 := h3
  have lt3 : ∀ x ∈ p3, x.block < W.heap.size := by obtain ⟨m, hm⟩ := k3; exact DataW.trod_lt m _ _ _ hm
  have k4 := h4
  have lt4 : ∀ x ∈ p4, x.block < W.heap.size := by obtain ⟨m, hm⟩ := k4; exact DataW.trod_lt m _ _ _ hm
  have hbulk : Rows.uptoBulk d0 + (Rows.uptoBulk d1 + (Rows.uptoBulk d2 + (Rows.uptoBulk d3 + (Rows.uptoBulk d4 + 0)))) ≤ 1048576 := by
    have hb := of_decide_eq_true hk
    simp only [List.append_nil, Rows.uptoBulkAll] at hb
    exact hb
  obtain ⟨e0, e1, e2, e3, e4, e5, e6, y0, y1, y2, y3, y4, y5, y6, nn, rfl, rfl, t0, t1, t2, t3, t4, t5, t6⟩ := open_seven Try.underlying24 (by kernel_rfl) cellsO (hval 0 24 v0 rfl rfl) h0
  obtain ⟨s0, es0, _, x0⟩ := DataW.trod_int Try.underlying3 t0
  obtain rfl : e0 = .int .i64 s0 := by simpa using es0
  obtain ⟨s6, es6, _, x6⟩ := DataW.trod_int Try.underlying2 t6
  obtain rfl : e6 = .int .i64 s6 := by simpa using es6
  obtain ⟨ea, el, ec, zs1, rfl, L1, B1⟩ := lst_open t1
  obtain ⟨pa, pl, pc, zs2, rfl, L2, B2⟩ := lst_open t2
  obtain ⟨la, ll, lc, zs3, rfl, L3, B3⟩ := lst_open t3
  obtain ⟨ha, hl, hc, zs4, rfl, L4, B4⟩ := lst_open t4
  obtain ⟨ta, tl, tc, zs5, rfl, L5, B5⟩ := lst_open t5
  obtain ⟨g0, g1, z0, z1, nm, rfl, rfl, _, hz0, hz1⟩ := open_agg2 Try.underlying28 (by kernel_rfl) cellsA (hval 1 28 v1 rfl rfl) h1
  obtain ⟨da, dl, dc, dss, rfl, LD, _⟩ := lst_open hz0
  obtain ⟨xa, xl, xc, xss, rfl, LX, CX⟩ := words_open hz1
  obtain ⟨g2, g3, z2, z3, nm2, rfl, rfl, _, hz2, hz3⟩ := open_agg2 Try.underlying28 (by kernel_rfl) cellsA (hval 2 28 v2 rfl rfl) h2
  obtain ⟨fa, fl, fc, gss, rfl, LG, _⟩ := lst_open hz2
  obtain ⟨ya, yl, yc, yss, rfl, LY, CY⟩ := words_open hz3
  obtain ⟨A, len, cap, rfl⟩ := okWide_slice Try.underlying41 (hval 3 41 v3 rfl rfl)
  obtain ⟨fuel3, hf3⟩ := h3
  obtain ⟨ma, q, mc, vm, zs, ev, M1, M2, M3, BS⟩ := arrs_open (v := .slice A len cap) hf3
  obtain ⟨rfl, rfl, rfl⟩ : ma = A ∧ q = len ∧ mc = cap := by cases ev; exact ⟨rfl, rfl, rfl⟩
  obtain ⟨s9, rfl⟩ := okWide_int Try.underlying2 (hval 4 2 v4 rfl rfl)
  obtain ⟨fuel4, hf4⟩ := h4
  obtain ⟨s7, es7, x7, w7⟩ := DataW.trod_int Try.underlying2 hf4
  obtain rfl : s9 = s7 := by simpa [Value.cells] using es7
  have hb0 : Rows.uptoBulk (DataW.agg [y0.1, y1.1, y2.1, y3.1, y4.1, y5.1, y6.1]) = Rows.uptoBulk y0.1 + (Rows.uptoBulk y1.1 + (Rows.uptoBulk y2.1 + (Rows.uptoBulk y3.1 + (Rows.uptoBulk y4.1 + (Rows.uptoBulk y5.1 + (Rows.uptoBulk y6.1 + 0)))))) + 1 := by
    simp only [Rows.uptoBulk, Rows.uptoBulkAll]
  have hb1 := bulk_pos d4
  have BS1 : q ≤ Rows.uptoBulk d3 := BS
  clear hA0 hval0
  refine (V.arrayLinear_walk s0 s9 s6 ea el ec zs1 pa pl pc zs2 la ll lc zs3 ha hl hc zs4 ta tl tc zs5 da dl dc dss xa xl xc xss fa fl fc gss ya yl yc yss ma q mc vm W zs L1 L2 L3 L4 L5 (by omega) (by omega) (by omega) (by omega) (by omega) LD LX CX LG LY CY M1 M2 (by omega) M3 (bounds_i64 w7)).mono fun e W' ⟨he, bel⟩ => ?_
  subst he
  exact ⟨_, rfl, _, _, _, [], _, [], hW', trodAll_mk1 (shut_bool Try.underlying4 _), (trodAll_cons_mk (Below.trod laidOut (by kernel_rfl) (of_decide_eq_true (by kernel_rfl)) k0 bel lt0) (trodAll_cons_mk (Below.trod laidOut (by kernel_rfl) (of_decide_eq_true (by kernel_rfl)) k1 bel lt1) (trodAll_cons_mk (Below.trod laidOut (by kernel_rfl) (of_decide_eq_true (by kernel_rfl)) k2 bel lt2) (trodAll_cons_mk (Below.trod laidOut (by kernel_rfl) (of_decide_eq_true (by kernel_rfl)) k3 bel lt3) (trodAll_cons_mk (Below.trod laidOut (by kernel_rfl) (of_decide_eq_true (by kernel_rfl)) k4 bel lt4) trodAll_mk0))))), rfl, bel.frame _, fun h => by cases h⟩

theorem over : Rows.arrayLinearUptoRow.holds Try.pinned (Rows.OpenSpec.upto Rows.arrayLinearSpec) :=
  OpenClaim.holds_of_cond 6 Try.f6 rfl rfl rfl rfl rfl rfl rfl ⟨rfl, rfl, rfl, rfl, rfl⟩ rfl rfl rfl rfl rfl (by kernel_rfl) Try.func6 (by kernel_rfl)
    (of_decide_eq_true (by kernel_rfl)) (by unfold Func.isWrapper; first | (rw [if_pos (by decide +kernel)]; kernel_rfl) | (rw [if_neg (by decide +kernel)]; exact ⟨rfl, rfl⟩))
    (fun os started H enc _ F => lifted os started H enc F)

theorem proved : Rows.ArrayLinearUptoSaid := over
#print axioms proved
end Go.Proofs.Ytcidhbkdaleomaa.arrayLinear

namespace Go.Proofs.Ytcidhbkdaleomaa
theorem arrayLinear_holds : Rows.ArrayLinearUptoSaid := arrayLinear.proved
end Go.Proofs.Ytcidhbkdaleomaa
