/-
  CoreRuns: the frame; and its claim.
-/
import Derived.Test.YtoabffmiedbkkaaGreatRows
import Derived.WalkKit
import Derived.ProofKit
import Derived.OpenShut
import Derived.ShutString
import Derived.ChangeOld
import Derived.Below
import Derived.Lib.SmallJoins
import Derived.SizedLaws
import Derived.Test.YtoabffmiedbkkaaGreatRJ51
import Derived.Test.YtoabffmiedbkkaaGreatRJ52
namespace Go.Proofs.YtoabffmiedbkkaaGreat.coreRuns
open Go.ChangeShapes Go.WideShapes Go.ChangeAt Go.RowKit Go.Joins
set_option linter.unusedVariables false

theorem own : ownKnob Tryz.prog.godebug = none := by kernel_rfl
theorem laidOut : laidOutB Tryz.prog = true := by kernel_rfl

set_option maxRecDepth 100000 in
set_option maxHeartbeats 1000000 in
theorem lifted (os : Os) (started : os.Started) (H : Type) (enc : TypeId × Value → H) :
    ReturnsInHanded {} Tryz.checked os 3 .any (Rows.coreRunsSpec.pre6 enc Tryz.prog Tryz.f3 Rows.coreRunsRow.domain false) (Rows.coreRunsSpec.post enc Tryz.prog Tryz.f3 false true false false) := by
  refine returnsInHanded_of_change_sized (C := Tryz.checked) own started (by kernel_rfl) Tryz.func3
    (ChangeSpec.witness6 (enc := enc) (C := Tryz.checked) false ⟨#[], #[.agg #[.int .i64 0, .int .i64 0, .slice none 0 0, .slice none 0 0], .slice none 0 0, .slice none 0 0], []⟩ 8 (by kernel_rfl) (by kernel_rfl) (by kernel_rfl) (by kernel_rfl)) ?_
  intro W base args ds gs before hval0 hW hcnd hsz0 _
  have hval : ∀ (j : Nat) t v, Tryz.f3.params[j]? = some t → args[j]? = some v → Value.okWide Tryz.prog W .any base t v := hval0
  have hsz : (DataW.weightsEach Tryz.prog (Tryz.f3.params.toList ++ Rows.coreRunsSpec.plain.varTypes Tryz.prog) (ds ++ gs)).all (· ≤ reachBytes) = true := hsz0
  have hW' := hW
  obtain ⟨p, q, hA0, hV, rfl, hfz, hnd⟩ := hW
  have hA : DataW.TrodAll enc Tryz.prog W 0 (fun _ => true) true Tryz.f3.params.toList args.toList ds p := hA0
  rw [Tryz.params3] at hA hval hsz
  obtain ⟨v0, vs0, d0, ds0, p0, q0, hargs, rfl, rfl, h0, r0⟩ := trodAll_cons hA
  obtain ⟨v1, vs1, d1, ds1, p1, q1, rfl, rfl, rfl, h1, r1⟩ := trodAll_cons r0
  obtain ⟨v2, vs2, d2, ds2, p2, q2, rfl, rfl, rfl, h2, r2⟩ := trodAll_cons r1
  obtain ⟨rfl, rfl, rfl⟩ := trodAll_nil r2
  obtain rfl : args = #[v0, v1, v2] := by cases args; simp_all
  obtain ⟨rfl, rfl⟩ := trodVars_none hV
  have k0 := h0
  have lt0 : ∀ x ∈ p0, x.block < W.heap.size := by obtain ⟨m, hm⟩ := k0; exact DataW.trod_lt m _ _ _ hm
  have k1 := h1
  have lt1 : ∀ x ∈ p1, x.block < W.heap.size := by obtain ⟨m, hm⟩ := k1; exact DataW.trod_lt m _ _ _ hm
  have k2 := h2
  have lt2 : ∀ x ∈ p2, x.block < W.heap.size := by obtain ⟨m, hm⟩ := k2; exact DataW.trod_lt m _ _ _ hm
  obtain ⟨n0, n1, n2, n3, y00, y10, y20, y30, nn0, rfl, _, _, hy00, hy10, hy20, hy30⟩ := open_agg4 Tryz.underlying24 (by kernel_rfl) V.cellsCode (hval 0 24 v0 rfl rfl) h0
  obtain ⟨pad, e0, _⟩ := DataW.trod_int Tryz.underlying3 hy00
  obtain ⟨mem, e1, _⟩ := DataW.trod_int Tryz.underlying3 hy10
  obtain rfl : n0 = .int .i64 pad := by simpa using e0
  obtain rfl : n1 = .int .i64 mem := by simpa using e1
  obtain ⟨ma, ml, mc, mv, rfl, hm, hcm, hvm⟩ := V.inss_openV hy20
  obtain ⟨ka, kl, kc, mk, rfl, hk, hcap, hvk⟩ := V.inss_openV hy30
  obtain ⟨xa1, xl1, xc1, xs1, rfl, hx1⟩ : ∃ (a : Option Addr) (len cap : Nat) (xs : List Int), v1 = .slice a len cap ∧ V.Ints W a len xs := by
    obtain ⟨a1, len1, cap1, rfl⟩ := okWide_slice Tryz.underlying25 (hval 1 25 v1 rfl rfl)
    obtain ⟨fuel, hf⟩ := h1
    exact V.row_int64 (v := .slice a1 len1 cap1) hf
  obtain ⟨xa2, xl2, xc2, xs2, rfl, hx2, hb2⟩ : ∃ (a : Option Addr) (len cap : Nat) (xs : List Int), v2 = .slice a len cap ∧ V.Ints W a len xs ∧ len * 8 ≤ 140737488355328 := by
    obtain ⟨a1, len1, cap1, rfl⟩ := okWide_slice Tryz.underlying26 (hval 2 26 v2 rfl rfl)
    obtain ⟨fuel, hf⟩ := h2
    exact V.row_int_sz (v := .slice a1 len1 cap1) hf (fun n hn => by simpa using List.all_eq_true.1 hsz _ (DataW.weights_mem_each (j := 2) rfl rfl n hn))
  clear hA0 hval0
  refine (V.coreRuns_walk ⟨pad, mem, ma, ml, mc, ka, kl, kc⟩ mv mk xa1 xl1 xc1 xs1 xa2 xl2 xc2 xs2 W hm hk hcm hcap hvm hvk hx1 hx2 hb2).mono fun e W' ⟨he, bel⟩ => ?_
  subst he
  exact ⟨_, rfl, _, _, _, [], _, [], hW', trodAll_mk1 (shut_bool Tryz.underlying4 _), (trodAll_cons_mk (Below.trod laidOut (by kernel_rfl) (of_decide_eq_true (by kernel_rfl)) k0 bel lt0) (trodAll_cons_mk (Below.trod laidOut (by kernel_rfl) (of_decide_eq_true (by kernel_rfl)) k1 bel lt1) (trodAll_cons_mk (Below.trod laidOut (by kernel_rfl) (of_decide_eq_true (by kernel_rfl)) k2 bel lt2) trodAll_mk0))), rfl, bel.frame _, fun h => by cases h⟩

theorem over : Rows.coreRunsRow.holds Tryz.pinned (OpenSpec.ofChange Rows.coreRunsSpec) :=
  OpenClaim.holds_of_wide 3 Tryz.f3 rfl rfl rfl rfl rfl rfl rfl ⟨rfl, rfl, rfl, rfl, rfl⟩ rfl rfl rfl rfl rfl (by kernel_rfl) Tryz.func3 (by kernel_rfl)
    (of_decide_eq_true (by kernel_rfl)) (by unfold Func.isWrapper; first | (rw [if_pos (by decide +kernel)]; kernel_rfl) | (rw [if_neg (by decide +kernel)]; exact ⟨rfl, rfl⟩))
    (fun os started H enc _ => lifted os started H enc)

theorem proved : Rows.CoreRunsSaid := over
#print axioms proved
end Go.Proofs.YtoabffmiedbkkaaGreat.coreRuns

namespace Go.Proofs.YtoabffmiedbkkaaGreat
theorem coreRuns_holds : Rows.CoreRunsSaid := coreRuns.proved
end Go.Proofs.YtoabffmiedbkkaaGreat
