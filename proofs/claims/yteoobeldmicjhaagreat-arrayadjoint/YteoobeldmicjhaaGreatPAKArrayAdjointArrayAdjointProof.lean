/-
  ArrayAdjoint: the frame of the full form, and its claim.
-/
import Derived.Test.YteoobeldmicjhaaGreatRows
import Derived.WalkKit
import Derived.ProofKit
import Derived.OpenShut
import Derived.ShutString
import Derived.ChangeOld
import Derived.Below
import Derived.Lib.SmallJoins
import Derived.Deep.Slices
import Derived.JoinedCond
import Derived.Deep.SlicePairs
import Derived.Test.YteoobeldmicjhaaGreatPAKArrayAdjoint55
namespace Go.Proofs.YteoobeldmicjhaaGreat.arrayAdjoint
open Go.ChangeShapes Go.WideShapes Go.ChangeAt Go.RowKit Go.Joins Go.Deep
set_option linter.unusedVariables false

theorem own : ownKnob Tryz.prog.godebug = none := by kernel_rfl
theorem laidOut : laidOutB Tryz.prog = true := by kernel_rfl
theorem cellsO : Tryz.prog.cellsOf 31 = 7 := by kernel_rfl
theorem cellsA : Tryz.prog.cellsOf 25 = 2 := by kernel_rfl

section
variable {H : Type} {enc : TypeId × Value → H} {W : World}

theorem array_seven {α : Type} {cs : Array α} (h : cs.size = 7) : ∃ c0 c1 c2 c3 c4 c5 c6, cs = #[c0, c1, c2, c3, c4, c5, c6] := by
  obtain ⟨l⟩ := cs
  match l, h with
  | [c0, c1, c2, c3, c4, c5, c6], _ => exact ⟨c0, c1, c2, c3, c4, c5, c6, rfl⟩

theorem open_seven {base : Nat} {spare : Nat → Bool} {held : Bool} {P : Program} {r : Reach} {b0 : Nat} {t : TypeId} {f0 f1 f2 f3 f4 f5 f6 : Field} {v : Value} {d : DataW H} {p : List MemPlace} (hs : P.underlying t = some (.struct #[f0, f1, f2, f3, f4, f5, f6])) (hone : oneCellFields P #[f0, f1, f2, f3, f4, f5, f6] = true) (hC : P.cellsOf t = 7)
    (hv : Value.okWide P W r b0 t v) (h : DataW.Trod enc P W base spare held t v d p) :
    ∃ (v0 v1 v2 v3 v4 v5 v6 : Value) (y0 y1 y2 y3 y4 y5 y6 : DataW H × List MemPlace) (n : Nat), v = .agg #[v0, v1, v2, v3, v4, v5, v6] ∧ d = .agg [y0.1, y1.1, y2.1, y3.1, y4.1, y5.1, y6.1] ∧
      DataW.trod enc P W base spare held n f0.type [v0] = some y0 ∧ DataW.trod enc P W base spare held n f1.type [v1] = some y1 ∧ DataW.trod enc P W base spare held n f2.type [v2] = some y2 ∧ DataW.trod enc P W base spare held n f3.type [v3] = some y3 ∧ DataW.trod enc P W base spare held n f4.type [v4] = some y4 ∧ DataW.trod enc P W base spare held n f5.type [v5] = some y5 ∧ DataW.trod enc P W base spare held n f6.type [v6] = some y6 := by
  obtain ⟨cs, rfl, hsz⟩ := okWide_struct hs hv
  obtain ⟨c0, c1, c2, c3, c4, c5, c6, rfl⟩ := array_seven (hsz.trans hC)
  obtain ⟨fuel, hf⟩ := h
  obtain ⟨xs, n, _, hx, hl, hlen, hfs⟩ := DataW.trod_struct hs hf
  match xs, hlen with
  | [y0, y1, y2, y3, y4, y5, y6], _ =>
    obtain ⟨o0, k0⟩ := hone_of hone 0 f0 rfl
    obtain ⟨o1, k1⟩ := hone_of hone 1 f1 rfl
    obtain ⟨o2, k2⟩ := hone_of hone 2 f2 rfl
    obtain ⟨o3, k3⟩ := hone_of hone 3 f3 rfl
    obtain ⟨o4, k4⟩ := hone_of hone 4 f4 rfl
    obtain ⟨o5, k5⟩ := hone_of hone 5 f5 rfl
    obtain ⟨o6, k6⟩ := hone_of hone 6 f6 rfl
    have h0 := hfs 0 f0 rfl
    have h1 := hfs 1 f1 rfl
    have h2 := hfs 2 f2 rfl
    have h3 := hfs 3 f3 rfl
    have h4 := hfs 4 f4 rfl
    have h5 := hfs 5 f5 rfl
    have h6 := hfs 6 f6 rfl
    simp only [Prod.mk.injEq] at hx
    refine ⟨c0, c1, c2, c3, c4, c5, c6, y0, y1, y2, y3, y4, y5, y6, n, rfl, by simpa using hx.1, ?_, ?_, ?_, ?_, ?_, ?_, ?_⟩
    · simpa [Value.cells, o0, k0] using h0
    · simpa [Value.cells, o1, k1] using h1
    · simpa [Value.cells, o2, k2] using h2
    · simpa [Value.cells, o3, k3] using h3
    · simpa [Value.cells, o4, k4] using h4
    · simpa [Value.cells, o5, k5] using h5
    · simpa [Value.cells, o6, k6] using h6

theorem lst_open {fuel : Nat} {v : Value} {y : DataW H × List MemPlace} (h : DataW.trod enc Tryz.prog W 0 (fun _ => true) true fuel 22 [v] = some y) : ∃ a len cap zs, v = .slice a len cap ∧ V.Lst W a len cap zs := by
  rcases open_ints Tryz.underlying22 Tryz.underlying3 (by kernel_rfl) h with ⟨hcs, hx⟩ | ⟨x, l, c, zs, hcs, _, hl, hm, hz, hx, hcell, hwz⟩
  · exact ⟨none, 0, 0, [], by simpa using hcs, ⟨⟨rfl, by omega, by simp, .inl rfl⟩, Nat.le_refl _, fun _ => rfl⟩⟩
  · have hz' : zs.length = c := by simpa using hz
    exact ⟨some x, l, c, zs.take l, by simpa using hcs, ⟨V.ints_of_row (.inr ⟨x, rfl, hl, hm, hz', hcell, hwz⟩), hl, fun e => by cases e⟩⟩

theorem words_open {fuel : Nat} {v : Value} {y : DataW H × List MemPlace} (h : DataW.trod enc Tryz.prog W 0 (fun _ => true) true fuel 23 [v] = some y) : ∃ a len cap zs, v = .slice a len cap ∧ V.Ints W a len zs ∧ len ≤ cap := by
  rcases open_ints Tryz.underlying23 Tryz.underlying2 (by kernel_rfl) h with ⟨hcs, hx⟩ | ⟨x, l, c, zs, hcs, _, hl, hm, hz, hx, hcell, hwz⟩
  · exact ⟨none, 0, 0, [], by simpa using hcs, ⟨rfl, by omega, by simp, .inl rfl⟩, Nat.le_refl _⟩
  · have hz' : zs.length = c := by simpa using hz
    exact ⟨some x, l, c, zs.take l, by simpa using hcs, V.ints_of_row (.inr ⟨x, rfl, hl, hm, hz', hcell, hwz⟩), hl⟩

end

set_option maxRecDepth 100000 in
set_option maxHeartbeats 1000000 in
theorem lifted (os : Os) (started : os.Started) (H : Type) (enc : TypeId × Value → H) :
    ReturnsInHanded {} Tryz.checked os 5 .any (Rows.arrayAdjointSpec.pre6 enc Tryz.prog Tryz.f5 Rows.arrayAdjointRow.domain false) (Rows.arrayAdjointSpec.post enc Tryz.prog Tryz.f5 false true false false) := by
  refine returnsInHanded_of_change (C := Tryz.checked) own started (by kernel_rfl) Tryz.func5
    (ChangeSpec.witness6 (enc := enc) (C := Tryz.checked) false ⟨#[], #[.agg #[.int .i64 0, .slice none 0 0, .slice none 0 0, .slice none 0 0, .slice none 0 0, .slice none 0 0, .int .i64 0], .agg #[.slice none 0 0, .slice none 0 0], .slice none 0 0], []⟩ 8 (by kernel_rfl) (by kernel_rfl) (by kernel_rfl) (by kernel_rfl)) ?_
  intro W base args ds gs before hval0 hW hcnd _
  have hval : ∀ (j : Nat) t v, Tryz.f5.params[j]? = some t → args[j]? = some v → Value.okWide Tryz.prog W .any base t v := hval0
  have hW' := hW
  obtain ⟨p, q, hA0, hV, rfl, hfz, hnd⟩ := hW
  have hA : DataW.TrodAll enc Tryz.prog W 0 (fun _ => true) true Tryz.f5.params.toList args.toList ds p := hA0
  rw [Tryz.params5] at hA hval
  obtain ⟨v0, vs0, d0, ds0, p0, q0, hargs, rfl, rfl, h0, r0⟩ := trodAll_cons hA
  obtain ⟨v1, vs1, d1, ds1, p1, q1, rfl, rfl, rfl, h1, r1⟩ := trodAll_cons r0
  obtain ⟨v2, vs2, d2, ds2, p2, q2, rfl, rfl, rfl, h2, r2⟩ := trodAll_cons r1
  obtain ⟨rfl, rfl, rfl⟩ := trodAll_nil r2
  obtain rfl : args = #[v0, v1, v2] := by cases args; simp_all
  obtain ⟨rfl, rfl⟩ := trodVars_none hV
  have k0 := h0
  have lt0 : ∀ x ∈ p0, x.block < W.heap.size := by obtain ⟨m, hm⟩ := k0; exact DataW.trod_lt m _ _ _ hm
  have k1 := h1
  have lt1 : ∀ x ∈ p1, x.block < W.heap.size := by obtain ⟨m, hm⟩ := k1; exact DataW.trod_lt m _ _ _ hm
  have k2 := h2
  have lt2 : ∀ x ∈ p2, x.block < W.heap.size := by obtain ⟨m, hm⟩ := k2; exact DataW.trod_lt m _ _ _ hm
  obtain ⟨e0, e1, e2, e3, e4, e5, e6, y0, y1, y2, y3, y4, y5, y6, nn, rfl, rfl, t0, t1, t2, t3, t4, t5, t6⟩ := open_seven Tryz.underlying31 (by kernel_rfl) cellsO (hval 0 31 v0 rfl rfl) h0
  obtain ⟨s0, es0, _, x0⟩ := DataW.trod_int Tryz.underlying3 t0
  obtain rfl : e0 = .int .i64 s0 := by simpa using es0
  obtain ⟨s6, es6, _, x6⟩ := DataW.trod_int Tryz.underlying2 t6
  obtain rfl : e6 = .int .i64 s6 := by simpa using es6
  obtain ⟨ea, el, ec, zs1, rfl, L1⟩ := lst_open t1
  obtain ⟨pa, pl, pc, zs2, rfl, L2⟩ := lst_open t2
  obtain ⟨la, ll, lc, zs3, rfl, L3⟩ := lst_open t3
  obtain ⟨ha, hl, hc, zs4, rfl, L4⟩ := lst_open t4
  obtain ⟨ta, tl, tc, zs5, rfl, L5⟩ := lst_open t5
  obtain ⟨g1, i1, y01, y11, nn1, rfl, _, _, hy01, hy11⟩ := open_agg2 Tryz.underlying25 (by kernel_rfl) cellsA (hval 1 25 v1 rfl rfl) h1
  obtain ⟨da, dl, dc, zs7, rfl, LD⟩ := lst_open hy01
  obtain ⟨xa, xl, xc, zs8, rfl, LX, CX⟩ := words_open hy11
  obtain ⟨ua, un, uc, rfl⟩ := okWide_slice Tryz.underlying23 (hval 2 23 v2 rfl rfl)
  obtain ⟨fuel2, hf2⟩ := h2
  obtain ⟨ua', un', uc', zs9, ev, LU, _⟩ := words_open (v := .slice ua un uc) hf2
  obtain ⟨rfl, rfl, rfl⟩ : ua = ua' ∧ un = un' ∧ uc = uc' := by cases ev; exact ⟨rfl, rfl, rfl⟩
  clear hA0 hval0
  refine (V.arrayAdjoint_walk s0 s6 ea el ec zs1 pa pl pc zs2 la ll lc zs3 ha hl hc zs4 ta tl tc zs5 da dl dc zs7 xa xl xc zs8 ua un uc zs9 W L1 L2 L3 L4 L5 LD LX CX LU).mono fun e W' ⟨he, bel⟩ => ?_
  subst he
  exact ⟨_, rfl, _, _, _, [], _, [], hW', trodAll_mk1 (shut_bool Tryz.underlying4 _), (trodAll_cons_mk (Below.trod laidOut (by kernel_rfl) (of_decide_eq_true (by kernel_rfl)) k0 bel lt0) (trodAll_cons_mk (Below.trod laidOut (by kernel_rfl) (of_decide_eq_true (by kernel_rfl)) k1 bel lt1) (trodAll_cons_mk (Below.trod laidOut (by kernel_rfl) (of_decide_eq_true (by kernel_rfl)) k2 bel lt2) trodAll_mk0))), rfl, bel.frame _, fun h => by cases h⟩

theorem over : Rows.arrayAdjointRow.holds Tryz.pinned (OpenSpec.ofChange Rows.arrayAdjointSpec) :=
  OpenClaim.holds_of_wide 5 Tryz.f5 rfl rfl rfl rfl rfl rfl rfl ⟨rfl, rfl, rfl, rfl, rfl⟩ rfl rfl rfl rfl rfl (by kernel_rfl) Tryz.func5 (by kernel_rfl)
    (of_decide_eq_true (by kernel_rfl)) (by unfold Func.isWrapper; first | (rw [if_pos (by decide +kernel)]; kernel_rfl) | (rw [if_neg (by decide +kernel)]; exact ⟨rfl, rfl⟩))
    (fun os started H enc _ => lifted os started H enc)

theorem proved : Rows.ArrayAdjointSaid := over
#print axioms proved
end Go.Proofs.YteoobeldmicjhaaGreat.arrayAdjoint

namespace Go.Proofs.YteoobeldmicjhaaGreat
theorem arrayAdjoint_holds : Rows.ArrayAdjointSaid := arrayAdjoint.proved
end Go.Proofs.YteoobeldmicjhaaGreat
