/-
  OrderRuns: the frame; and its claim.
-/
import Derived.Test.YtoidgdbgpbcebaaRows
import Derived.WalkKit
import Derived.ProofKit
import Derived.OpenShut
import Derived.ShutString
import Derived.ChangeOld
import Derived.Below
import Derived.Lib.SmallJoins
import Derived.SizedLaws
import Derived.Test.YtoidgdbgpbcebaaK45
import Derived.Test.YtoidgdbgpbcebaaK40
namespace Go.Proofs.Ytoidgdbgpbcebaa.orderRuns
open Go.ChangeShapes Go.WideShapes Go.ChangeAt Go.RowKit Go.Joins
set_option linter.unusedVariables false

theorem own : ownKnob Try.prog.godebug = none := by kernel_rfl
theorem laidOut : laidOutB Try.prog = true := by kernel_rfl
theorem bytesArr : Try.prog.bytesOf 82 = 24 := by kernel_rfl

set_option maxRecDepth 100000 in
set_option maxHeartbeats 1000000 in
theorem lifted (os : Os) (started : os.Started) (H : Type) (enc : TypeId × Value → H) :
    ReturnsInHanded {} Try.checked os 3 .any (Rows.orderRunsSpec.pre6 enc Try.prog Try.f3 Rows.orderRunsRow.domain false) (Rows.orderRunsSpec.post enc Try.prog Try.f3 false true false false) := by
  refine returnsInHanded_of_change_sized (C := Try.checked) own started (by kernel_rfl) Try.func3
    (ChangeSpec.witness6 (enc := enc) (C := Try.checked) false ⟨#[], #[.agg #[.slice none 0 0, .slice none 0 0], .slice none 0 0, .slice none 0 0, .slice none 0 0], []⟩ 8 (by kernel_rfl) (by kernel_rfl) (by kernel_rfl) (by kernel_rfl)) ?_
  intro W base args ds gs before hval0 hW hcnd hsz0 _
  have hval : ∀ (j : Nat) t v, Try.f3.params[j]? = some t → args[j]? = some v → Value.okWide Try.prog W .any base t v := hval0
  have hsz : (DataW.weightsEach Try.prog (Try.f3.params.toList ++ Rows.orderRunsSpec.plain.varTypes Try.prog) (ds ++ gs)).all (· ≤ reachBytes) = true := hsz0
  have hW' := hW
  obtain ⟨p, q, hA0, hV, rfl, hfz, hnd⟩ := hW
  have hA : DataW.TrodAll enc Try.prog W 0 (fun _ => true) true Try.f3.params.toList args.toList ds p := hA0
  rw [Try.params3] at hA hval hsz
  obtain ⟨v0, vs0, d0, ds0, p0, q0, hargs, rfl, rfl, h0, r0⟩ := trodAll_cons hA
  obtain ⟨v1, vs1, d1, ds1, p1, q1, rfl, rfl, rfl, h1, r1⟩ := trodAll_cons r0
  obtain ⟨v2, vs2, d2, ds2, p2, q2, rfl, rfl, rfl, h2, r2⟩ := trodAll_cons r1
  obtain ⟨v3, vs3, d3, ds3, p3, q3, rfl, rfl, rfl, h3, r3⟩ := trodAll_cons r2
  obtain ⟨rfl, rfl, rfl⟩ := trodAll_nil r3
  obtain rfl : args = #[v0, v1, v2, v3] := by cases args; simp_all
  obtain ⟨rfl, rfl⟩ := trodVars_none hV
  have k0 := h0
  have lt0 : ∀ x ∈ p0, x.block < W.heap.size := by obtain ⟨m, hm⟩ := k0; exact DataW.trod_lt m _ _ _ hm
  have k1 := h1
  have lt1 : ∀ x ∈ p1, x.block < W.heap.size := by obtain ⟨m, hm⟩ := k1; exact DataW.trod_lt m _ _ _ hm
  have k2 := h2
  have lt2 : ∀ x ∈ p2, x.block < W.heap.size := by obtain ⟨m, hm⟩ := k2; exact DataW.trod_lt m _ _ _ hm
  have k3 := h3
  have lt3 : ∀ x ∈ p3, x.block < W.heap.size := by obtain ⟨m, hm⟩ := k3; exact DataW.trod_lt m _ _ _ hm
  obtain ⟨g0, i0, y00, y10, nn0, rfl, _, _, hy00, hy10⟩ := open_agg2 Try.underlying25 (by kernel_rfl) V.cellsNest (hval 0 25 v0 rfl rfl) h0
  obtain ⟨za, zl, zc, zs, rfl, hz, _⟩ := V.row_ints hy00
  obtain ⟨ta, tl, tc, ss, rfl, hs⟩ := V.stms_open hy10
  obtain ⟨ma, ml, mc, T, rfl, hT⟩ : ∃ (a : Option Addr) (len cap : Nat) (T : List (List (List Int × Int))), v1 = .slice a len cap ∧ V.TimesA W a len T := by
    obtain ⟨a1, len1, cap1, rfl⟩ := okWide_slice Try.underlying27 (hval 1 27 v1 rfl rfl)
    obtain ⟨fuel, hf⟩ := h1
    exact V.times_open (v := .slice a1 len1 cap1) hf
  obtain ⟨a, len, cap, L, rfl, hM, hb24⟩ : ∃ (a : Option Addr) (len cap : Nat) (L : V.Mem), v2 = .slice a len cap ∧ V.MemA W a len L ∧ len * 24 ≤ 140737488355328 := by
    obtain ⟨a1, len1, cap1, rfl⟩ := okWide_slice Try.underlying28 (hval 2 28 v2 rfl rfl)
    obtain ⟨fuel, hf⟩ := h2
    obtain ⟨a', l', c', L, e, hm, hl⟩ := V.mem_open (v := .slice a1 len1 cap1) hf
    cases e
    refine ⟨_, _, _, L, rfl, hm, ?_⟩
    rcases hl with rfl | ⟨elems, spare, hd, hl⟩
    · omega
    · have hd' : d2 = .slice elems spare := hd
      subst hd'
      have := sized_slice hsz (j := 2) (t := 28) (e := 82) rfl rfl Try.underlying28
      rw [bytesArr] at this
      simp only [reachBytes] at this
      omega
  obtain ⟨xa, xl, xc, mix, rfl, hx⟩ : ∃ (a : Option Addr) (len cap : Nat) (xs : List Int), v3 = .slice a len cap ∧ V.Ints W a len xs := by
    obtain ⟨a1, len1, cap1, rfl⟩ := okWide_slice Try.underlying22 (hval 3 22 v3 rfl rfl)
    obtain ⟨fuel, hf⟩ := h3
    obtain ⟨a', l', c', xs, e, hm, _⟩ := V.row_ints (v := .slice a1 len1 cap1) hf
    exact ⟨_, _, _, xs, e, hm.1⟩
  clear hA0 hval0
  refine (V.orderRuns_walk za zl zc zs ta tl tc ss ma ml mc T a len cap L xa xl xc mix W hz.1 hs hT hM hb24 hx).mono fun e W' ⟨he, bel⟩ => ?_
  subst he
  exact ⟨_, rfl, _, _, _, [], _, [], hW', trodAll_mk1 (shut_bool Try.underlying4 _), (trodAll_cons_mk (Below.trod laidOut (by kernel_rfl) (of_decide_eq_true (by kernel_rfl)) k0 bel lt0) (trodAll_cons_mk (Below.trod laidOut (by kernel_rfl) (of_decide_eq_true (by kernel_rfl)) k1 bel lt1) (trodAll_cons_mk (Below.trod laidOut (by kernel_rfl) (of_decide_eq_true (by kernel_rfl)) k2 bel lt2) (trodAll_cons_mk (Below.trod laidOut (by kernel_rfl) (of_decide_eq_true (by kernel_rfl)) k3 bel lt3) trodAll_mk0)))), rfl, bel.frame _, fun h => by cases h⟩

theorem over : Rows.orderRunsRow.holds Try.pinned (OpenSpec.ofChange Rows.orderRunsSpec) :=
  OpenClaim.holds_of_wide 3 Try.f3 rfl rfl rfl rfl rfl rfl rfl ⟨rfl, rfl, rfl, rfl, rfl⟩ rfl rfl rfl rfl rfl (by kernel_rfl) Try.func3 (by kernel_rfl)
    (of_decide_eq_true (by kernel_rfl)) (by unfold Func.isWrapper; first | (rw [if_pos (by decide +kernel)]; kernel_rfl) | (rw [if_neg (by decide +kernel)]; exact ⟨rfl, rfl⟩))
    (fun os started H enc _ => lifted os started H enc)

theorem proved : Rows.OrderRunsSaid := over
#print axioms proved
end Go.Proofs.Ytoidgdbgpbcebaa.orderRuns

namespace Go.Proofs.Ytoidgdbgpbcebaa
theorem orderRuns_holds : Rows.OrderRunsSaid := orderRuns.proved
end Go.Proofs.Ytoidgdbgpbcebaa
