/-
  The reader: expr on all levels; given.
-/
import Derived.Test.YtadhlnlcdljamaaGreatDoorTxExpr
import Derived.Test.YtadhlnlcdljamaaGreatDoorTxCall
namespace Go.Proofs.YtadhlnlcdljamaaGreatDoor.V
set_option maxRecDepth 20000
open Go.RowKit

theorem tExprAll {X : Tks} {R G c : Nat} (ok : X.Ok) : ∀ (d : Nat), d ≤ 64 → ∀ (W : World) (i : Nat), RdAt X R G c W i → Calls Tryz.prog 43 #[.pointer (some ⟨R, 0, none⟩), .int .i64 ((65 - d : Nat) : Int)] W (Parsed X R G c (repT W) (exprS X d i) W)
  | 0, _, W, i, h => tExpr_deep h
  | d + 1, hd, W, i, h => by
    have ih := tExprAll (R := R) (G := G) (c := c) ok d (by omega)
    have hL : 64 - d ≤ 64 := by omega
    have hE : ∀ (W : World) (j : Nat), RdAt X R G c W j → Calls Tryz.prog 43 #[.pointer (some ⟨R, 0, none⟩), .int .i64 (((64 - d : Nat) : Int) + 1)] W (Parsed X R G c (repT W) (exprS X d j) W) := by
      intro W j hj
      have := ih W j hj
      rwa [show ((65 - d : Nat) : Int) = ((64 - d : Nat) : Int) + 1 by omega] at this
    have e : (65 - (d + 1) : Nat) = 64 - d := by omega
    rw [e, exprS]
    exact tExpr_step ok (exprS X d) h hL hE (fun W j h => tSumAll (chainS X (factorS X (exprS X d)) isMulB) h (fun W j h => tProductAll (factorS X (exprS X d)) h (fun W j h => tFactor ok (exprS X d) h hL hE (fun W j nm h => tCall ok (exprS X d) (fun _ _ _ h => exprS_lt d _ h) nm h hL hE))))

/-- A parameter as a value. -/
def repG (w0 : World) (w : World) (g : ByteArray × List (ByteArray × Int)) (v : Value) : Prop := ∃ A m, v = .agg #[.string g.1, .slice A g.2.length m] ∧ SliceV DimV w (from_ w0) g.2 (.slice A g.2.length m)

set_option maxRecDepth 100000 in
set_option maxHeartbeats 4000000 in
theorem tGiven {X : Tks} {R G c : Nat} {w : World} {i : Nat} (ok : X.Ok) (h : RdAt X R G c w i) : Calls Tryz.prog 42 #[.pointer (some ⟨R, 0, none⟩)] w (Parsed X R G c (repG w) (givenS X i) w) := by
  have HOK := hide ok
  have HRR := hide h.ltR
  have HGG := hide h.lt
  have HD0 : Hid (TwoAt 54 (w.alloc (.cells #[.string ⟨#[]⟩, .slice none 0 0] 54)) w.heap.size (.string ⟨#[]⟩) (.slice none 0 0)) := TwoAt.new _ w _ _
  have HR0 := hide (h.alloc (.cells #[.string ⟨#[]⟩, .slice none 0 0] 54))
  have HF0 := hide (World.grownBy_alloc w (.cells #[.string ⟨#[]⟩, .slice none 0 0] 54) (some R))
  clear h ok
  unfold givenS
  cases h1 : nameS X i with
  | bad T k =>
    simp only [Res.bind_bad]
    unfold Parsed thrown faultV
    go_enter Tryz.func42, Tryz.ntmps42
    go_wp2_with (first
      | (go_at_call 39; refine (tName HOK.out HR0.out).mono ?_; rw [h1]; unfold Parsed thrown faultV; rintro e wb ⟨hg, rfl⟩; have HFb := hide (HF0.out.then' hg); clear hg)
      )
    exact ⟨rfl, HFb.out, rfl⟩
  | ok nm i1 =>
    simp only [Res.bind_ok]
    cases h2 : mustS X (tC 58) i1 with
    | bad T k =>
      simp only [Res.bind_bad]
      unfold Parsed thrown faultV
      go_enter Tryz.func42, Tryz.ntmps42
      go_wp2_with (first
        | (go_at_call 39; refine (tName HOK.out HR0.out).mono ?_; rw [h1]; rintro e w1 ⟨hg, hr, v, rfl, hv⟩; unfold repS at hv; subst hv; have HF1 := hide (HF0.out.then' hg); have HR1 := hide hr; have HD1 := hide (HD0.out.grown hg (by have := HRR.out; simp; omega)); clear hg hr)
        | (go_at_call 38; refine (tMust HR1.out ⟨#[58]⟩ (tC 58) (by simp) (by simp)).mono ?_; rw [h2]; unfold Parsed thrown faultV; rintro e wb ⟨hg, rfl⟩; have HFb := hide (HF1.out.then' hg); clear hg)
        )
      exact ⟨rfl, HFb.out, rfl⟩
    | ok _x2 i2 =>
      simp only [Res.bind_ok]
      cases h3 : shapeS X i2 with
      | bad T k =>
        simp only [Res.bind_bad]
        unfold Parsed thrown faultV
        go_enter Tryz.func42, Tryz.ntmps42
        go_wp2_with (first
          | (go_at_call 39; refine (tName HOK.out HR0.out).mono ?_; rw [h1]; rintro e w1 ⟨hg, hr, v, rfl, hv⟩; unfold repS at hv; subst hv; have HF1 := hide (HF0.out.then' hg); have HR1 := hide hr; have HD1 := hide (HD0.out.grown hg (by have := HRR.out; simp; omega)); clear hg hr)
          | (go_at_call 38; refine (tMust HR1.out ⟨#[58]⟩ (tC 58) (by simp) (by simp)).mono ?_; rw [h2]; rintro e w2 ⟨hg, hr, v, rfl, hv⟩; unfold repU at hv; subst hv; have HF2 := hide (HF1.out.then' hg); have HR2 := hide hr; have HD2 := hide (HD1.out.grown hg (by have := HRR.out; simp; omega)); clear hg hr)
          | (go_at_call 55; refine (tShape HOK.out HR2.out).mono ?_; rw [h3]; unfold Parsed thrown faultV; rintro e wb ⟨hg, rfl⟩; have HFb := hide (HF2.out.then' hg); clear hg)
          )
        exact ⟨rfl, HFb.out, rfl⟩
      | ok ds i3 =>
        simp only [Res.bind_ok]
        go_enter Tryz.func42, Tryz.ntmps42
        go_wp2_with (first
          | (go_at_call 39; refine (tName HOK.out HR0.out).mono ?_; rw [h1]; rintro e w1 ⟨hg, hr, v, rfl, hv⟩; unfold repS at hv; subst hv; have HF1 := hide (HF0.out.then' hg); have HR1 := hide hr; have HD1 := hide (HD0.out.grown hg (by have := HRR.out; simp; omega)); clear hg hr)
          | (go_at_call 38; refine (tMust HR1.out ⟨#[58]⟩ (tC 58) (by simp) (by simp)).mono ?_; rw [h2]; rintro e w2 ⟨hg, hr, v, rfl, hv⟩; unfold repU at hv; subst hv; have HF2 := hide (HF1.out.then' hg); have HR2 := hide hr; have HD2 := hide (HD1.out.grown hg (by have := HRR.out; simp; omega)); clear hg hr)
          | (go_at_call 55; refine (tShape HOK.out HR2.out).mono ?_; rw [h3]; rintro e w3 ⟨hg, hr, v, rfl, hv⟩; unfold repD at hv; obtain ⟨A3, c3, rfl⟩ := hv.form; have HF3 := hide (HF2.out.then' hg); have HR3 := hide hr; have HD3 := hide (HD2.out.grown hg (by have := HRR.out; simp; omega)); have HV3 := hide hv; have hs2 := HD2.out.lt; obtain ⟨⟨q0, q1⟩, f0, f1⟩ := HD3.out.cells; clear hg hr hv)
          )
        have HJ := hide (HD3.out.put (.string nm) (.slice A3 ds.length c3))
        have HO := hide (TwoAt.out (w := w3) (b := w.heap.size) (.string nm) (.slice A3 ds.length c3))
        obtain ⟨⟨u0, u1⟩, _⟩ := HJ.out.cells
        obtain ⟨wf, hwf⟩ : ∃ wf, wf = (w3.setCell ⟨w.heap.size, 0, none⟩ (.string nm)).setCell ⟨w.heap.size, 1, none⟩ (.slice A3 ds.length c3) := ⟨_, rfl⟩
        rw [← hwf] at HO u0 u1 ⊢
        clear hwf HJ
        refine bodyPost_ret (v := .agg #[.string nm, .slice A3 ds.length c3]) (by simp [results, Tryz.results42, go_sem, u0, u1]) rfl ?_
        have hr1 := HRR.out
        have hr2 := HGG.out
        refine ⟨HF3.out.onto HO.out (fun g e => by cases e; exact Nat.le_refl _), HR3.out.grown HO.out (by simp; omega) (by simp; omega), _, rfl, A3, c3, rfl, ?_⟩
        exact DimV.stays.slice_weaken (DimV.stays.slice HV3.out (Keep.of_grown HO.out (fun b hb _ => by have h9 : w2.heap.size ≤ b := hb; simp; omega))) (fun b _ hb => by have h9 : w2.heap.size ≤ b := hb; unfold from_; omega)
end Go.Proofs.YtadhlnlcdljamaaGreatDoor.V
