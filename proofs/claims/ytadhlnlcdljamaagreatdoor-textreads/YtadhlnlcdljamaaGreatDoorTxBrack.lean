/-
  The reader: bracketed.
-/
import Derived.Test.YtadhlnlcdljamaaGreatDoorTxShape
namespace Go.Proofs.YtadhlnlcdljamaaGreatDoor.V
set_option maxRecDepth 20000
open Go.RowKit

/-- What a closure leaves that reads one more thing. -/
def OneP {α : Type} (X : Tks) (R G c : Nat) (w0 : World) (J : World → List α → Prop) (us : List α) (r : Res α) (e : Ending) (w' : World) : Prop :=
  w0.grownBy w' (some R) ∧ match r with
  | .bad T k => e = thrown T k
  | .ok a j => e = .returned (.tuple #[]) ∧ RdAt X R G c w' j ∧ J w' (us ++ [a])
def AllP {α : Type} (X : Tks) (R G c : Nat) (w0 : World) (J : World → List α → Prop) (r : Res (List α)) (e : Ending) (w' : World) : Prop :=
  w0.grownBy w' (some R) ∧ match r with
  | .bad T k => e = thrown T k
  | .ok us j => e = .returned (.tuple #[]) ∧ RdAt X R G c w' j ∧ J w' us

set_option maxRecDepth 100000 in
set_option maxHeartbeats 4000000 in
theorem tBracketed {α : Type} {X : Tks} {R G c : Nat} {w0 w : World} {i : Nat} (E : Nat → Res α) (J : World → List α → Prop) (F : FuncId) (cap : Array Value) (hcf : ∀ (args : Array Value) (w : World), (callFunc F args).run Tryz.prog w = .ok (.enter F args) w)
    (hE : ∀ j a j', E j = .ok a j' → j < j') (hJ : ∀ W W' us, J W us → W.grownBy W' (some R) → J W' us)
    (hone : ∀ W j us, RdAt X R G c W j → w0.grownBy W (some R) → J W us → us.length ≤ j → Calls Tryz.prog F cap W (OneP X R G c w0 J us (E j)))
    (h : RdAt X R G c w i) (hg0 : w0.grownBy w (some R)) (h0 : J w []) :
    Calls Tryz.prog 40 #[.pointer (some ⟨R, 0, none⟩), .func (Fn.func F) #[] cap] w (AllP X R G c w0 J (brackS X E i)) := by
  have HM := hide (tMust h ⟨#[40]⟩ (tC 40) (by simp) (by simp))
  have HJ := hide hJ
  have HE := hide hE
  have HON := hide hone
  have HG0 := hide hg0
  have H0 := hide h0
  have hm := h.len
  clear hJ hone hg0 h0 h hE
  unfold brackS
  cases hr : mustS X (tC 40) i with
  | bad T k =>
    rw [hr] at HM
    unfold AllP Parsed thrown faultV at *
    simp only [Res.bind_bad]
    go_enter Tryz.func40, Tryz.ntmps40
    go_wp2_with (go_at_call 38; refine HM.out.mono ?_; rintro e w1 ⟨hg, rfl⟩; have HG := hide hg; clear hg)
    exact ⟨rfl, HG0.out.then' HG.out, rfl⟩
  | ok u i1 =>
    rw [hr] at HM
    simp only [Res.bind_ok]
    clear hr
    cases hb : ((X.tx i1).toList == tC 41) with
    | true =>
      rw [if_pos rfl]
      go_enter Tryz.func40, Tryz.ntmps40
      go_wp2_with (first
        | (go_at_call 38; refine HM.out.mono ?_; rintro e w1 ⟨hg, hr1, v, rfl, hv⟩; unfold repU at hv; subst hv; have HG := hide hg; have HR1 := hide hr1; clear hg hr1)
        | (go_at_call 51; refine (tMay_yes HR1.out ⟨#[41]⟩ (tC 41) (by simp) (by simp) hb).mono ?_; rintro e w2 ⟨rfl, hg, hr⟩; have HG3 := hide hg; have HR3 := hide hr; clear hg hr))
      go_end0
      exact ⟨(HG0.out.then' HG.out).then' HG3.out, rfl, HR3.out, HJ.out _ _ _ (HJ.out _ _ _ H0.out HG.out) HG3.out⟩
    | false =>
      rw [if_neg (by simp)]
      cases he : E i1 with
      | bad T k =>
        unfold AllP
        simp only [Res.bind_bad]
        unfold thrown faultV at *
        go_enter Tryz.func40, Tryz.ntmps40
        go_wp2_with (first
          | (go_at_call 38; refine HM.out.mono ?_; rintro e w1 ⟨hg, hr1, v, rfl, hv⟩; unfold repU at hv; subst hv; have HG := hide hg; have HR1 := hide hr1; clear hg hr1)
          | (go_at_call 51; refine (tMay_no HR1.out ⟨#[41]⟩ (tC 41) (by simp) (by simp) hb).mono ?_; rintro e w2 ⟨rfl, hg, hr⟩; have HG3 := hide hg; have HR3 := hide hr; clear hg hr)
          | (refine (HON.out _ i1 [] HR3.out ((HG0.out.then' HG.out).then' HG3.out) (HJ.out _ _ _ (HJ.out _ _ _ H0.out HG.out) HG3.out) (Nat.zero_le _)).mono ?_; rw [he]; unfold OneP thrown faultV; rintro e w4 ⟨hg4, rfl⟩; have HG4 := hide hg4; clear hg4))
        exact ⟨rfl, HG4.out, rfl⟩
      | ok a i2 =>
        simp only [Res.bind_ok]
        have hi2 := HE.out _ _ _ he
        obtain ⟨r0, hr0⟩ : ∃ r0, r0 = argsL X E (X.ts.length + 1) i2 [a] := ⟨_, rfl⟩
        rw [← hr0]
        have HR0 := hide hr0
        clear hr0
        go_enter Tryz.func40, Tryz.ntmps40
        go_wp2_with (first
          | (go_at_call 38; refine HM.out.mono ?_; rintro e w1 ⟨hg, hr1, v, rfl, hv⟩; unfold repU at hv; subst hv; have HG := hide hg; have HR1 := hide hr1; clear hg hr1)
          | (go_at_call 51; refine (tMay_no HR1.out ⟨#[41]⟩ (tC 41) (by simp) (by simp) hb).mono ?_; rintro e w2 ⟨rfl, hg, hr⟩; have HG3 := hide hg; have HR3 := hide hr; clear hg hr)
          | (refine (HON.out _ i1 [] HR3.out ((HG0.out.then' HG.out).then' HG3.out) (HJ.out _ _ _ (HJ.out _ _ _ H0.out HG.out) HG3.out) (Nat.zero_le _)).mono ?_; rw [he]; unfold OneP; rintro e w4 ⟨hg4, rfl, hr4, hj4⟩; have HG4 := hide hg4; have HR4 := hide hr4; have HJ4 := hide hj4; clear hg4 hr4 hj4))
        go_loopw [] (fun wr => ∃ (f j : Nat) (us : List α), RdAt X R G c wr j ∧ w0.grownBy wr (some R) ∧ r0 = argsL X E f j us ∧ X.ts.length - j < f ∧ us.length ≤ j ∧ J wr us) (fun wr => X.ts.length + 1 - posOf R wr)
        case atStart => exact ⟨_, i2, [a], HR4.out, HG4.out, HR0.out, by omega, by simp; omega, HJ4.out⟩
        case round =>
          obtain ⟨f, j, us, hR, hG, hsl, hf, hd, hO⟩ := hrel
          obtain ⟨f, rfl⟩ : ∃ g, f = g + 1 := ⟨f - 1, by omega⟩
          rw [argsL] at hsl
          have HR2 := hide hR
          have HG2 := hide hG
          have HJ2 := hide hO
          have hjl := hR.le
          clear hR hG hO hb he HR1 HG HR3 HG3 HR4 HG4 HJ4 HR0 HM
          cases hb : ((X.tx j).toList == tC 44) with
          | true =>
            rw [if_pos hb] at hsl
            have hjlt := Tks.lt_of hb (by simp)
            cases he : E (j + 1) with
            | bad T k =>
              rw [he, Res.bind_bad] at hsl
              rw [hsl]
              unfold AllP thrown faultV
              clear hsl
              go_wp2_with (first
                | (go_at_call 51; refine (tMay_yes HR2.out ⟨#[44]⟩ (tC 44) (by simp) (by simp) hb).mono ?_; rintro e w2 ⟨rfl, hg, hr⟩; have HG3 := hide hg; have HR3 := hide hr; clear hg hr)
                | (refine (HON.out _ (j + 1) us HR3.out (HG2.out.then' HG3.out) (HJ.out _ _ _ HJ2.out HG3.out) (by omega)).mono ?_; rw [he]; unfold OneP thrown faultV; rintro e w4 ⟨hg4, rfl⟩; have HG4 := hide hg4; clear hg4))
              exact ⟨rfl, HG4.out, rfl⟩
            | ok a' j' =>
              rw [he, Res.bind_ok] at hsl
              have HSL := hide hsl
              have hj' := HE.out _ _ _ he
              clear hsl
              go_wp2_with (first
                | (go_at_call 51; refine (tMay_yes HR2.out ⟨#[44]⟩ (tC 44) (by simp) (by simp) hb).mono ?_; rintro e w2 ⟨rfl, hg, hr⟩; have HG3 := hide hg; have HR3 := hide hr; clear hg hr)
                | (refine (HON.out _ (j + 1) us HR3.out (HG2.out.then' HG3.out) (HJ.out _ _ _ HJ2.out HG3.out) (by omega)).mono ?_; rw [he]; unfold OneP; rintro e w4 ⟨hg4, rfl, hr4, hj4⟩; have HG4 := hide hg4; have HR4 := hide hr4; have HJ4 := hide hj4; clear hg4 hr4 hj4))
              go_roundw
              case rel => exact ⟨f, j', _, HR4.out, HG4.out, HSL.out, by omega, by rw [List.length_append]; show us.length + 1 ≤ j'; omega, HJ4.out⟩
              case measure => rw [HR4.out.pos, HR2.out.pos]; have := HR4.out.le; omega
          | false =>
            rw [if_neg (by rw [hb]; simp)] at hsl
            cases hb2 : ((X.tx j).toList == tC 41) with
            | true =>
              rw [if_pos hb2] at hsl
              have HSL := hide hsl
              have HMS : Hid (mustS X (tC 41) j = .ok () (j + 1)) := if_pos hb2
              clear hsl
              go_wp2_with (first
                | (go_at_call 51; refine (tMay_no HR2.out ⟨#[44]⟩ (tC 44) (by simp) (by simp) hb).mono ?_; rintro e w2 ⟨rfl, hg, hr⟩; have HG3 := hide hg; have HR3 := hide hr; clear hg hr)
                | (go_at_call 38; refine (tMust HR3.out ⟨#[41]⟩ (tC 41) (by simp) (by simp)).mono ?_; rw [HMS.out]; rintro e w4 ⟨hg, hr1, v, rfl, hv⟩; unfold repU at hv; subst hv; have HG4 := hide hg; have HR4 := hide hr1; clear hg hr1))
              go_end0
              rw [HSL.out]
              exact ⟨(HG2.out.then' HG3.out).then' HG4.out, rfl, HR4.out, HJ.out _ _ _ (HJ.out _ _ _ HJ2.out HG3.out) HG4.out⟩
            | false =>
              rw [if_neg (by rw [hb2]; simp)] at hsl
              have HSL := hide hsl
              have HMS : Hid (mustS X (tC 41) j = .bad 7 (X.ps j)) := if_neg (by rw [hb2]; simp)
              clear hsl
              go_wp2_with (first
                | (go_at_call 51; refine (tMay_no HR2.out ⟨#[44]⟩ (tC 44) (by simp) (by simp) hb).mono ?_; rintro e w2 ⟨rfl, hg, hr⟩; have HG3 := hide hg; have HR3 := hide hr; clear hg hr)
                | (go_at_call 38; refine (tMust HR3.out ⟨#[41]⟩ (tC 41) (by simp) (by simp)).mono ?_; rw [HMS.out]; unfold Parsed thrown faultV; rintro e w4 ⟨hg, rfl⟩; have HG4 := hide hg; clear hg))
              refine ⟨rfl, ?_⟩
              rw [HSL.out]
              exact ⟨(HG2.out.then' HG3.out).then' HG4.out, rfl⟩
end Go.Proofs.YtadhlnlcdljamaaGreatDoor.V
