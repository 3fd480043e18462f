/-
  NestRuns: the frame; and its claim.
-/
import Derived.Test.YtindmfpfpooijaaRows
import Derived.WalkKit
import Derived.ProofKit
import Derived.OpenShut
import Derived.ShutString
import Derived.ChangeOld
import Derived.Below
import Derived.Lib.SmallJoins
import Derived.SizedLaws
import Derived.Test.YtindmfpfpooijaaNeLaw
import Derived.Test.YtindmfpfpooijaaNeOpen
namespace Go.Proofs.Ytindmfpfpooijaa.nestRuns
open Go.ChangeShapes Go.WideShapes Go.ChangeAt Go.RowKit Go.Joins
set_option linter.unusedVariables false

theorem own : ownKnob Try.prog.godebug = none := by kernel_rfl
theorem laidOut : laidOutB Try.prog = true := by kernel_rfl
theorem bytesArr : Try.prog.bytesOf 33 = 24 := by kernel_rfl

theorem walk (za : Option Addr) (zl zc : Nat) (zs : List Int) (ta : Option Addr) (tl tc : Nat) (ss : List V.Stm) (a : Option Addr) (len cap : Nat) (L : V.Mem) (w : World) (hz : V.Ints w za zl zs) (hs : V.Stms w ta tl ss) (hA : V.MemA w a len L) (hb : len * 24 ≤ 140737488355328) :
    Calls Try.prog 3 #[.agg #[.slice za zl zc, .slice ta tl tc], .slice a len cap] w fun e w' => e = .returned (.bool true) ∧ Below w.heap.size w w' := by
  exact V.nestRuns_walk za zl zc zs ta tl tc ss a len cap L w hz hs hA hb

set_option maxRecDepth 100000 in
set_option maxHeartbeats 1000000 in
theorem lifted (os : Os) (started : os.Started) (H : Type) (enc : TypeId × Value → H) :
    ReturnsInHanded {} Try.checked os 3 .any (Rows.nestRunsSpec.pre6 enc Try.prog Try.f3 Rows.nestRunsRow.domain false) (Rows.nestRunsSpec.post enc Try.prog Try.f3 false true false false) := by
  refine returnsInHanded_of_change_sized (C := Try.checked) own started (by kernel_rfl) Try.func3
    (ChangeSpec.witness6 (enc := enc) (C := Try.checked) false ⟨#[], #[.agg #[.slice none 0 0, .slice none 0 0], .slice none 0 0], []⟩ 8 (by kernel_rfl) (by kernel_rfl) (by kernel_rfl) (by kernel_rfl)) ?_
  intro W base args ds gs before hval0 hW hcnd hsz0 _
  have hval : ∀ (j : Nat) t v, Try.f3.params[j]? = some t → args[j]? = some v → Value.okWide Try.prog W .any base t v := hval0
  have hsz : (DataW.weightsEach Try.prog (Try.f3.params.toList ++ Rows.nestRunsSpec.plain.varTypes Try.prog) (ds ++ gs)).all (· ≤ reachBytes) = true := hsz0
  have hW' := hW
  obtain ⟨p, q, hA0, hV, rfl, hfz, hnd⟩ := hW
  have hA : DataW.TrodAll enc Try.prog W 0 (fun _ => true) true Try.f3.params.toList args.toList ds p := hA0
  rw [Try.params3] at hA hval hsz
  obtain ⟨v0, vs0, d0, ds0, p0, q0, hargs, rfl, rfl, h0, r0⟩ := trodAll_cons hA
  obtain ⟨v1, vs1, d1, ds1, p1, q1, rfl, rfl, rfl, h1, r1⟩ := trodAll_cons r0
  obtain ⟨rfl, rfl, rfl⟩ := trodAll_nil r1
  obtain rfl : args = #[v0, v1] := by cases args; simp_all
  obtain ⟨rfl, rfl⟩ := trodVars_none hV
  have k0 := h0
  have lt0 : ∀ x ∈ p0, x.block < W.heap.size := by obtain ⟨m, hm⟩ := k0; exact DataW.trod_lt m _ _ _ hm
  have k1 := h1
  have lt1 : ∀ x ∈ p1, x.block < W.heap.size := by obtain ⟨m, hm⟩ := k1; exact DataW.trod_lt m _ _ _ hm
  obtain ⟨g0, i0, y00, y10, nn0, rfl, _, _, hy00, hy10⟩ := open_agg2 Try.underlying25 (by kernel_rfl) V.cellsNest (hval 0 25 v0 rfl rfl) h0
  obtain ⟨za, zl, zc, zs, rfl, hz, _⟩ := V.row_ints hy00
  obtain ⟨ta, tl, tc, ss, rfl, hs⟩ := V.stms_open hy10
  obtain ⟨a1, len1, cap1, rfl⟩ := okWide_slice Try.underlying26 (hval 1 26 v1 rfl rfl)
  obtain ⟨L, hM, hb24⟩ : ∃ L, V.MemA W a1 len1 L ∧ len1 * 24 ≤ 140737488355328 := by
    obtain ⟨fuel, hf⟩ := h1
    obtain ⟨a', l', c', L, e, hm, hl⟩ := V.mem_open (v := .slice a1 len1 cap1) hf
    cases e
    refine ⟨L, hm, ?_⟩
    rcases hl with rfl | ⟨elems, spare, hd, hl⟩
    · omega
    · have hd' : d1 = .slice elems spare := hd
      subst hd'
      have := sized_slice hsz (j := 1) (t := 26) (e := 33) rfl rfl Try.underlying26
      rw [bytesArr] at this
      simp only [reachBytes] at this
      omega
  clear hA0 hval0
  refine (walk za zl zc zs ta tl tc ss a1 len1 cap1 L W hz.1 hs hM hb24).mono fun e W' ⟨he, bel⟩ => ?_
  subst he
  exact ⟨_, rfl, _, _, _, [], _, [], hW', trodAll_mk1 (shut_bool Try.underlying4 _), (trodAll_cons_mk (Below.trod laidOut (by kernel_rfl) (of_decide_eq_true (by kernel_rfl)) k0 bel lt0) (trodAll_cons_mk (Below.trod laidOut (by kernel_rfl) (of_decide_eq_true (by kernel_rfl)) k1 bel lt1) trodAll_mk0)), rfl, bel.frame _, fun h => by cases h⟩

theorem over : Rows.nestRunsRow.holds Try.pinned (OpenSpec.ofChange Rows.nestRunsSpec) :=
  OpenClaim.holds_of_wide 3 Try.f3 rfl rfl rfl rfl rfl rfl rfl ⟨rfl, rfl, rfl, rfl, rfl⟩ rfl rfl rfl rfl rfl (by kernel_rfl) Try.func3 (by kernel_rfl)
    (of_decide_eq_true (by kernel_rfl)) (by unfold Func.isWrapper; first | (rw [if_pos (by decide +kernel)]; kernel_rfl) | (rw [if_neg (by decide +kernel)]; exact ⟨rfl, rfl⟩))
    (fun os started H enc _ => lifted os started H enc)

theorem proved : Rows.NestRunsSaid := over
#print axioms proved
end Go.Proofs.Ytindmfpfpooijaa.nestRuns

namespace Go.Proofs.Ytindmfpfpooijaa
theorem nestRuns_holds : Rows.NestRunsSaid := nestRuns.proved
end Go.Proofs.Ytindmfpfpooijaa
