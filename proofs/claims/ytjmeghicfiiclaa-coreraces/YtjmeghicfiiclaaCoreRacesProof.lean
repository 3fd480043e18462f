/-
  CoreRaces: the frame; and its claim.
-/
import Derived.Test.YtjmeghicfiiclaaRows
import Derived.WalkKit
import Derived.ProofKit
import Derived.OpenShut
import Derived.ShutString
import Derived.ChangeOld
import Derived.Below
import Derived.Lib.SmallJoins
import Derived.SizedLaws
import Derived.Test.YtjmeghicfiiclaaCoRcLaw
import Derived.Test.YtjmeghicfiiclaaCoOpen
namespace Go.Proofs.Ytjmeghicfiiclaa.coreRaces
open Go.ChangeShapes Go.WideShapes Go.ChangeAt Go.RowKit Go.Joins
set_option linter.unusedVariables false

theorem own : ownKnob Try.prog.godebug = none := by kernel_rfl
theorem laidOut : laidOutB Try.prog = true := by kernel_rfl

set_option maxRecDepth 100000 in
set_option maxHeartbeats 1000000 in
theorem lifted (os : Os) (started : os.Started) (H : Type) (enc : TypeId × Value → H) :
    ReturnsInHanded {} Try.checked os 3 .any (Rows.coreRacesSpec.pre6 enc Try.prog Try.f3 Rows.coreRacesRow.domain false) (Rows.coreRacesSpec.post enc Try.prog Try.f3 false true false false) := by
  refine returnsInHanded_of_change_sized (C := Try.checked) own started (by kernel_rfl) Try.func3
    (ChangeSpec.witness6 (enc := enc) (C := Try.checked) false ⟨#[], #[.agg #[.int .i64 0, .int .i64 0, .slice none 0 0, .slice none 0 0]], []⟩ 8 (by kernel_rfl) (by kernel_rfl) (by kernel_rfl) (by kernel_rfl)) ?_
  intro W base args ds gs before hval0 hW hcnd hsz0 _
  have hval : ∀ (j : Nat) t v, Try.f3.params[j]? = some t → args[j]? = some v → Value.okWide Try.prog W .any base t v := hval0
  have hsz : (DataW.weightsEach Try.prog (Try.f3.params.toList ++ Rows.coreRacesSpec.plain.varTypes Try.prog) (ds ++ gs)).all (· ≤ reachBytes) = true := hsz0
  have hW' := hW
  obtain ⟨p, q, hA0, hV, rfl, hfz, hnd⟩ := hW
  have hA : DataW.TrodAll enc Try.prog W 0 (fun _ => true) true Try.f3.params.toList args.toList ds p := hA0
  rw [Try.params3] at hA hval hsz
  obtain ⟨v0, vs0, d0, ds0, p0, q0, hargs, rfl, rfl, h0, r0⟩ := trodAll_cons hA
  obtain ⟨rfl, rfl, rfl⟩ := trodAll_nil r0
  obtain rfl : args = #[v0] := by cases args; simp_all
  obtain ⟨rfl, rfl⟩ := trodVars_none hV
  have k0 := h0
  have lt0 : ∀ x ∈ p0, x.block < W.heap.size := by obtain ⟨m, hm⟩ := k0; exact DataW.trod_lt m _ _ _ hm
  obtain ⟨n0, n1, n2, n3, y00, y10, y20, y30, nn0, rfl, _, _, hy00, hy10, hy20, hy30⟩ := open_agg4 Try.underlying24 (by kernel_rfl) V.cellsCode (hval 0 24 v0 rfl rfl) h0
  obtain ⟨pad, e0, _⟩ := DataW.trod_int Try.underlying3 hy00
  obtain ⟨mem, e1, _⟩ := DataW.trod_int Try.underlying3 hy10
  obtain rfl : n0 = .int .i64 pad := by simpa using e0
  obtain rfl : n1 = .int .i64 mem := by simpa using e1
  obtain ⟨ma, ml, mc, mv, rfl, hm, _⟩ := V.inss_open hy20
  obtain ⟨ka, kl, kc, mk, rfl, hk, hcap⟩ := V.inss_open hy30
  clear hA0 hval0
  refine (V.coreRaces_walk ⟨pad, mem, ma, ml, mc, ka, kl, kc⟩ mv mk W hm hk hcap).mono fun e W' ⟨he, bel⟩ => ?_
  subst he
  exact ⟨_, rfl, _, _, _, [], _, [], hW', trodAll_mk1 (shut_bool Try.underlying4 _), (trodAll_cons_mk (Below.trod laidOut (by kernel_rfl) (of_decide_eq_true (by kernel_rfl)) k0 bel lt0) trodAll_mk0), rfl, bel.frame _, fun h => by cases h⟩

theorem over : Rows.coreRacesRow.holds Try.pinned (OpenSpec.ofChange Rows.coreRacesSpec) :=
  OpenClaim.holds_of_wide 3 Try.f3 rfl rfl rfl rfl rfl rfl rfl ⟨rfl, rfl, rfl, rfl, rfl⟩ rfl rfl rfl rfl rfl (by kernel_rfl) Try.func3 (by kernel_rfl)
    (of_decide_eq_true (by kernel_rfl)) (by unfold Func.isWrapper; first | (rw [if_pos (by decide +kernel)]; kernel_rfl) | (rw [if_neg (by decide +kernel)]; exact ⟨rfl, rfl⟩))
    (fun os started H enc _ => lifted os started H enc)

theorem proved : Rows.CoreRacesSaid := over
#print axioms proved
end Go.Proofs.Ytjmeghicfiiclaa.coreRaces

namespace Go.Proofs.Ytjmeghicfiiclaa
theorem coreRaces_holds : Rows.CoreRacesSaid := coreRaces.proved
end Go.Proofs.Ytjmeghicfiiclaa
