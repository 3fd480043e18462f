/-
  The reader: program.
-/
import Derived.Test.YtadhlnlcdljamaaGreatDoorTxFunc
import Derived.Deep.QuietTactic
namespace Go.Proofs.YtadhlnlcdljamaaGreatDoor.V
set_option maxRecDepth 20000
open Go.RowKit

theorem funcInfo : (Tryz.prog.info? 49).map (fun i => (i.zero, i.size, i.bytes)) = some (some (.agg z9), 9, 152) := by kernel_rfl
def repP (w0 : World) (w : World) (fs : List FnT) (v : Value) : Prop := SliceV FuncV w (from_ w0) fs v

set_option maxRecDepth 100000 in
set_option maxHeartbeats 4000000 in
theorem tProgram {X : Tks} {R G c : Nat} {w : World} (ok : X.Ok) (h : RdAt X R G c w 0) : Calls Tryz.prog 10 #[.pointer (some ⟨R, 0, none⟩)] w (Parsed X R G c (repP w) (progS X) w) := by
  obtain ⟨i0, hi, hz0, hz1, hz2⟩ := info_parts funcInfo
  have HI := hide hi
  have HI0 := hide hz0
  have HI1 := hide hz1
  have HI2 := hide hz2
  have HOK := hide ok
  have HRR := hide h.ltR
  have HGG := hide h.lt
  have hxl := h.len
  have HR := hide h
  clear h ok hi hz0 hz1 hz2
  unfold progS
  obtain ⟨r0, hr0⟩ : ∃ r0, r0 = progL X (X.ts.length + 1) 0 [] := ⟨_, rfl⟩
  rw [← hr0]
  have HR0 := hide hr0
  clear hr0
  go_enter Tryz.func10, Tryz.ntmps10
  go_wp2
  go_loopw [3] (fun v wr => ∃ (f j : Nat) (fs : List FnT), RdAt X R G c wr j ∧ w.grownBy wr (some R) ∧ r0 = progL X f j fs ∧ X.ts.length - j < f ∧ fs.length ≤ j ∧ GrowV FuncV 49 9 wr w.heap.size (from_ w) fs v) (fun _ wr => X.ts.length + 1 - posOf R wr)
  case atStart => exact ⟨_, 0, [], HR.out, ⟨rfl, rfl, rfl, Nat.le_refl _, fun _ _ _ => rfl⟩, HR0.out, by omega, Nat.zero_le _, GrowV.nil _ _ _ _ _ _⟩
  case round =>
    obtain ⟨f, j, fs, hR, hG, hsl, hf, hd, hO⟩ := hrel
    obtain ⟨f, rfl⟩ : ∃ g, f = g + 1 := ⟨f - 1, by omega⟩
    rw [progL] at hsl
    have HR2 := hide hR
    have HG2 := hide hG
    have HO2 := hide hO
    have hjl := hR.le
    have hcap := hR.cap
    obtain ⟨⟨r0', r1'⟩, _, _⟩ := hR.two.cells
    clear hR hG hO
    have i1 : (0 : Int) ≤ (j : Int) := Int.natCast_nonneg _
    by_cases hlt : j < X.ts.length
    · rw [if_pos hlt] at hsl
      have i2 : (j : Int) < ((X.ts.length + 1 : Nat) : Int) - 1 := by omega
      go_wp2
      go_region
      have HRD := hide (HR2.out.grown (grown_drew _ none) (by simp) (by simp))
      cases hl : funcS X j with
      | bad Te k =>
        rw [hl, Res.bind_bad] at hsl
        have HSL := hide hsl
        clear hsl
        go_wp2_with (go_at_call 17; refine (tFunc HOK.out HRD.out).mono ?_; rw [hl]; unfold Parsed thrown faultV; rintro e wb ⟨hg, rfl⟩; have HFb := hide ((HG2.out.then' (grown_drew _ _)).then' hg); clear hg)
        refine ⟨rfl, ?_⟩
        rw [HSL.out]
        exact ⟨HFb.out, rfl⟩
      | ok fn j' =>
        rw [hl, Res.bind_ok] at hsl
        have HSL := hide hsl
        have hj' := funcS_lt hl
        clear hsl
        go_wp2_with (first
          | (go_at_call 17; refine (tFunc HOK.out HRD.out).mono ?_; rw [hl]; rintro e w5 ⟨hg5, hr5, v5, rfl, Ag, mg, k, tn, nu, sh, B, n1, m1, B', n1', m1', B'', n1'', m1'', rfl, hvg, hvt⟩; have HR5 := hide hr5; have HG5 := hide ((grown_drew wr (some R)).then' hg5); obtain ⟨cs5, ho5, hs5⟩ := HO2.out.grown FuncV.stays HG5.out HRR.out; have HO5 := hide ho5; have HS5 := hide hs5; have HVG := hide hvg; have HVT := hide hvt; clear hg5 hr5 ho5 hs5 hvg hvt)
          | (at_builtin; refine wpList_append_own_at _ rfl _ _ 22 rfl w.heap.size 49 i0 _ 9 152 Tryz.underlying22 HI.out HI0.out HI1.out HI2.out rfl (by decide) _ _ _ rfl (HO5.out.alloc _) ⟨w5.heap.size, 0, none⟩ 1 1 [.string fn.name, .slice Ag fn.given.length mg, .int .i64 k, .string tn, .int .i64 nu, .bool sh, .slice B n1 m1, .slice B' n1' m1', .slice B'' n1'' m1''] rfl rfl ?c1 ?c2 ?c3 ?c4 ?c5 ?_))
        case c1 => exact cells_new _ [.string fn.name, .slice Ag fn.given.length mg, .int .i64 k, .string tn, .int .i64 nu, .bool sh, .slice B n1 m1, .slice B' n1' m1', .slice B'' n1'' m1''] _
        case c2 => intro u hu; simp at hu; rcases hu with rfl | rfl | rfl | rfl | rfl | rfl | rfl | rfl | rfl <;> rfl
        case c3 => unfold maxLen; omega
        case c4 => omega
        case c5 => have := HG2.out.size; have := HG5.out.size; simp; omega
        intro v' w6 hown' hgrow _ hat
        have HFV : Hid (FuncV w5 (fun b => from_ w b ∧ some b ≠ u3.ownBlock) fn [.string fn.name, .slice Ag fn.given.length mg, .int .i64 k, .string tn, .int .i64 nu, .bool sh, .slice B n1 m1, .slice B' n1' m1', .slice B'' n1'' m1'']) := by
          have hw : ∀ b, b < w5.heap.size → from_ wr.drew b → from_ w b ∧ some b ≠ u3.ownBlock := fun b _ hb => by
            have h9 : wr.heap.size ≤ b := hb
            have h10 := HG2.out.size
            refine ⟨by unfold from_; omega, fun e => ?_⟩
            obtain ⟨cs0, ho0, _⟩ := HO2.out
            have := (ho0.lt b e.symm).2
            omega
          exact ⟨_, _, rfl, GivenV.stays.slice_weaken HVG.out hw, TreeV.stays.weaken HVT.out hw⟩
        have HQ := hide (grow_one (a := fn) FuncV.stays HRR.out HGG.out HR5.out HG2.out HG5.out HO5.out HS5.out HFV.out hgrow hat hown')
        clear hown' hgrow hat
        go_wp2
        go_roundw
        case rel => exact ⟨f, j', _, HQ.out.1, HQ.out.2.1, HSL.out, by omega, by rw [List.length_append]; show fs.length + 1 ≤ j'; omega, HQ.out.2.2⟩
        case measure => rw [HQ.out.1.pos, HR2.out.pos]; have := HQ.out.1.le; omega
    · rw [if_neg hlt] at hsl
      have HSL := hide hsl
      clear hsl
      have i2 : ¬ (j : Int) < ((X.ts.length + 1 : Nat) : Int) - 1 := by omega
      go_wp2
      go_region
      go_wp2
      refine bodyPost_ret (results_tmp rfl _ _ _) rfl ?_
      rw [HSL.out]
      exact ⟨HG2.out.then' (grown_drew _ _), HR2.out.grown (grown_drew _ none) (by simp) (by simp), _, rfl, (HO2.out.grown FuncV.stays (grown_drew _ _) HRR.out).slice FuncV.stays (fun _ h => h)⟩
end Go.Proofs.YtadhlnlcdljamaaGreatDoor.V
