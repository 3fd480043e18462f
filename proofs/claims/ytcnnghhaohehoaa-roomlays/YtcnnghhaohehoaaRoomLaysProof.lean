/-
  RoomLays: the frame; and its claim.
-/
import Derived.Test.YtcnnghhaohehoaaRows
import Derived.WalkKit
import Derived.ProofKit
import Derived.OpenShut
import Derived.ShutString
import Derived.ChangeOld
import Derived.Below
import Derived.Lib.SmallJoins
import Derived.SizedLaws
import Derived.Test.YtcnnghhaohehoaaRmLaysLaw
import Derived.Test.YtcnnghhaohehoaaRmOpen
namespace Go.Proofs.Ytcnnghhaohehoaa.roomLays
open Go.ChangeShapes Go.WideShapes Go.ChangeAt Go.RowKit Go.Joins
set_option linter.unusedVariables false

theorem own : ownKnob Try.prog.godebug = none := by kernel_rfl
theorem laidOut : laidOutB Try.prog = true := by kernel_rfl
theorem bytesLife : Try.prog.bytesOf 37 = 24 := by kernel_rfl

set_option maxRecDepth 100000 in
set_option maxHeartbeats 1000000 in
theorem lifted (os : Os) (started : os.Started) (H : Type) (enc : TypeId × Value → H) :
    ReturnsInHanded {} Try.checked os 3 .any (Rows.roomLaysSpec.pre6 enc Try.prog Try.f3 Rows.roomLaysRow.domain false) (Rows.roomLaysSpec.post enc Try.prog Try.f3 false true false false) := by
  refine returnsInHanded_of_change_sized (C := Try.checked) own started (by kernel_rfl) Try.func3
    (ChangeSpec.witness6 (enc := enc) (C := Try.checked) false ⟨#[], #[.slice none 0 0], []⟩ 8 (by kernel_rfl) (by kernel_rfl) (by kernel_rfl) (by kernel_rfl)) ?_
  intro W base args ds gs before hval0 hW hcnd hsz0 _
  have hval : ∀ (j : Nat) t v, Try.f3.params[j]? = some t → args[j]? = some v → Value.okWide Try.prog W .any base t v := hval0
  have hsz : (DataW.weightsEach Try.prog (Try.f3.params.toList ++ Rows.roomLaysSpec.plain.varTypes Try.prog) (ds ++ gs)).all (· ≤ reachBytes) = true := hsz0
  have hW' := hW
  obtain ⟨p, q, hA0, hV, rfl, hfz, hnd⟩ := hW
  have hA : DataW.TrodAll enc Try.prog W 0 (fun _ => true) true Try.f3.params.toList args.toList ds p := hA0
  rw [Try.params3] at hA hval hsz
  obtain ⟨v0, vs0, d0, ds0, p0, q0, hargs, rfl, rfl, h0, r0⟩ := trodAll_cons hA
  obtain ⟨rfl, rfl, rfl⟩ := trodAll_nil r0
  obtain rfl : args = #[v0] := by cases args; simp_all
  obtain ⟨rfl, rfl⟩ := trodVars_none hV
  have k0 := h0
  have lt0 : ∀ x ∈ p0, x.block < W.heap.size := by obtain ⟨m, hm⟩ := k0; exact DataW.trod_lt m _ _ _ hm
  obtain ⟨a, len, cap, ls, rfl, hF, hcap, hb24⟩ : ∃ (a : Option Addr) (len cap : Nat) (ls : List V.Lf), v0 = .slice a len cap ∧ V.Lives W a len ls ∧ len ≤ cap ∧ len * 24 ≤ 140737488355328 := by
    obtain ⟨a1, len1, cap1, rfl⟩ := okWide_slice Try.underlying22 (hval 0 22 v0 rfl rfl)
    obtain ⟨fuel, hf⟩ := h0
    obtain ⟨a', l', c', ls, e, hm, hc, hl⟩ := V.lives_open (v := .slice a1 len1 cap1) hf
    cases e
    refine ⟨_, _, _, ls, rfl, hm, hc, ?_⟩
    rcases hl with rfl | ⟨elems, spare, hd, hl⟩
    · omega
    · have hd' : d0 = .slice elems spare := hd
      subst hd'
      have := sized_slice hsz (j := 0) (t := 22) (e := 37) rfl rfl Try.underlying22
      rw [bytesLife] at this
      simp only [reachBytes] at this
      omega
  clear hA0 hval0
  refine (V.roomLays_walk a len cap ls W hF).mono fun e W' ⟨he, bel⟩ => ?_
  subst he
  exact ⟨_, rfl, _, _, _, [], _, [], hW', trodAll_mk1 (shut_bool Try.underlying4 _), (trodAll_cons_mk (Below.trod laidOut (by kernel_rfl) (of_decide_eq_true (by kernel_rfl)) k0 bel lt0) trodAll_mk0), rfl, bel.frame _, fun h => by cases h⟩

theorem over : Rows.roomLaysRow.holds Try.pinned (OpenSpec.ofChange Rows.roomLaysSpec) :=
  OpenClaim.holds_of_wide 3 Try.f3 rfl rfl rfl rfl rfl rfl rfl ⟨rfl, rfl, rfl, rfl, rfl⟩ rfl rfl rfl rfl rfl (by kernel_rfl) Try.func3 (by kernel_rfl)
    (of_decide_eq_true (by kernel_rfl)) (by unfold Func.isWrapper; first | (rw [if_pos (by decide +kernel)]; kernel_rfl) | (rw [if_neg (by decide +kernel)]; exact ⟨rfl, rfl⟩))
    (fun os started H enc _ => lifted os started H enc)

theorem proved : Rows.RoomLaysSaid := over
#print axioms proved
end Go.Proofs.Ytcnnghhaohehoaa.roomLays

namespace Go.Proofs.Ytcnnghhaohehoaa
theorem roomLays_holds : Rows.RoomLaysSaid := roomLays.proved
end Go.Proofs.Ytcnnghhaohehoaa
