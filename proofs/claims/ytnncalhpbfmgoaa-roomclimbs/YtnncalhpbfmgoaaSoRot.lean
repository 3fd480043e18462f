/-
  slices.rotateCmpFunc, at elements of one cell.
-/
import Derived.Test.YtnncalhpbfmgoaaSoSwap
namespace Go.Proofs.Ytnncalhpbfmgoaa.S1
open Go Go.Shelf Go.RowKit Go.Lib Go.Sort Go.Proofs Go.Proofs.Ytnncalhpbfmgoaa.S
set_option linter.unusedVariables false

/-- The sort's functions, as the program P has them. -/
structure StF (P : Program) : Prop where
  fSwap : P.funcs[76]? = some Try.f76
  fRot : P.funcs[74]? = some Try.f74
  fSym : P.funcs[68]? = some Try.f68
  fSta : P.funcs[54]? = some Try.f54
  fIns : P.funcs[67]? = some Try.f67
  eSwap : ∀ args w, (callFunc 76 args).run P w = .ok (.enter 76 args) w
  eRot : ∀ args w, (callFunc 74 args).run P w = .ok (.enter 74 args) w
  eSym : ∀ args w, (callFunc 68 args).run P w = .ok (.enter 68 args) w
  eSta : ∀ args w, (callFunc 54 args).run P w = .ok (.enter 54 args) w
  eIns : ∀ args w, (callFunc 67 args).run P w = .ok (.enter 67 args) w
set_option maxHeartbeats 4000000 in
set_option maxRecDepth 1000000 in
theorem rotate_k (P : Program) (H : StP P) (F : StF P) {α : Type} [Inhabited α] (enc : α → Value) (g : Nat) (cb : Array Value) (blk off cap a m b : Nat) (d0 d : Array α) (w0 w : World)
    (R : Row1 enc w0 blk off d0) (hs : d0.size = d.size) (S : SW enc w0 blk off d w) (ham : a < m) (hmb : m < b) (hb : b ≤ d.size) (hsz : d.size < 4611686018427387904) :
    Calls P 74 #[.slice (some ⟨blk, off, none⟩) d.size cap, .int .i64 a, .int .i64 m, .int .i64 b, .func (.func g) #[] cb] w fun e w' => e = .returned (.tuple #[]) ∧ ∃ d', SW enc w0 blk off d' w' ∧ Via (rotI a m b) d d' ∧ Perms a b d d' := by
  have mixed := H.mixed; have t3 := H.t3; have a3 := H.a3; have z3 := H.z3; have v3 := H.v3; have t4 := H.t4; have a4 := H.a4; have z4 := H.z4; have v4 := H.v4; have t22 := H.t22; have a22 := H.a22; have z22 := H.z22; have v22 := H.v22; have t25 := H.t25; have a25 := H.a25; have z25 := H.z25; have v25 := H.v25; have tU := H.tU; have aU := H.aU; have zU := H.zU; have vU := H.vU; have u22 := run_underlying H.t22; have hcl0 := R.hO.cells; have hst := R.hO.store P
  simp only [Value.cells] at hcl0
  have FG := F.fRot
  have eS := F.eSwap
  have S0 : Aside (SW enc w0 blk off d w) := S
  clear S
  go_enter FG, Try.ntmps74
  go_wp2
  go_loopg [10, 11] (b - a) (fun kx vi vj wr => ∃ (i j : Nat) (dk : Array α) (f : Nat → Nat), vi = .int .i64 i ∧ vj = .int .i64 j ∧ 0 < i ∧ 0 < j ∧ a + i ≤ m ∧ m + j ≤ b ∧ i + j ≤ kx ∧ dk.size = d.size ∧ Aside (SW enc w0 blk off dk wr) ∧ Hid (Via f d dk) ∧ Hid (∀ t, f (rotI (m - i) m (m + j) t) = rotI a m b t) ∧ Hid (Perms a b d dk))
  case atStart => exact ⟨m - a, b - m, d, fun t => t, by congr 1; omega, by congr 1; omega, by omega, by omega, by omega, by omega, by omega, rfl, S0, Via.id d, fun t => by rw [show m - (m - a) = a by omega, show m + (b - m) = b by omega], Perms.refl _ _ _⟩
  case round =>
    clear S0
    obtain ⟨i, j, dk, f, rfl, rfl, hi, hj, hai, hjb, hkx, hds, S1, HV, HF, HP⟩ := hrel
    by_cases hij : i = j
    · subst hij
      have hc := swapRange_k P H F.fSwap enc g cb blk off cap (m - i) m i d0 dk w0 wr R (by omega) S1.out (by omega) (by omega) (by omega)
      have ec : ((m - i : Nat) : Int) = (m : Int) - (i : Int) := by omega
      rw [ec, hds] at hc
      clear S1
      go_wp2_with (go_at_fn 76; refine hc.mono ?_; rintro e w1 ⟨rfl, d2, S2, hv2, hp2⟩)
      go_end0
      refine ⟨rfl, d2, S2, (HV.out.trans hv2).congr fun t => ?_, HP.out.trans hds (hp2.wide (by omega) (by omega))⟩
      rw [rot_eq (by omega), HF.out]
    · have hne : ¬ (i : Int) = (j : Int) := by omega
      by_cases hlt : j < i
      · have hltz : (i : Int) > (j : Int) := by omega
        have hltz' : (j : Int) < (i : Int) := by omega
        have hc := swapRange_k P H F.fSwap enc g cb blk off cap (m - i) m j d0 dk w0 wr R (by omega) S1.out (by omega) (by omega) (by omega)
        have ec : ((m - i : Nat) : Int) = (m : Int) - (i : Int) := by omega
        rw [ec, hds] at hc
        clear S1
        go_wp2_with (go_at_fn 76; refine hc.mono ?_; rintro e w1 ⟨rfl, d2, S2, hv2, hp2⟩)
        go_roundg (i - j + j)
        case measure => omega
        case rel => exact ⟨i - j, j, d2, _, by congr 1; omega, rfl, by omega, hj, by omega, hjb, Nat.le_refl _, hv2.size.trans hds, S2, HV.out.trans hv2, fun t => by show f _ = _; rw [rot_gt (by omega) hlt, HF.out], HP.out.trans hds (hp2.wide (by omega) (by omega))⟩
      · have hltz : ¬ (i : Int) > (j : Int) := by omega
        have hltz' : ¬ (j : Int) < (i : Int) := by omega
        have hc := swapRange_k P H F.fSwap enc g cb blk off cap (m - i) (m + j - i) i d0 dk w0 wr R (by omega) S1.out (by omega) (by omega) (by omega)
        have ec : ((m - i : Nat) : Int) = (m : Int) - (i : Int) := by omega
        have ec2 : ((m + j - i : Nat) : Int) = (m : Int) + (j : Int) - (i : Int) := by omega
        rw [ec, ec2, hds] at hc
        clear S1
        go_wp2_with (go_at_fn 76; refine hc.mono ?_; rintro e w1 ⟨rfl, d2, S2, hv2, hp2⟩)
        go_roundg (i + (j - i))
        case measure => omega
        case rel => exact ⟨i, j - i, d2, _, rfl, by congr 1; omega, hi, by omega, hai, by omega, Nat.le_refl _, hv2.size.trans hds, S2, HV.out.trans hv2, fun t => by show f _ = _; rw [rot_lt (by omega) (by omega), HF.out], HP.out.trans hds (hp2.wide (by omega) (by omega))⟩
end Go.Proofs.Ytnncalhpbfmgoaa.S1
