/-
  The document's side: given. The document's side: function.
-/
import Derived.Test.YtadhlnlcdljamaaGreatDoorMTxRCall
import Derived.Test.YtadhlnlcdljamaaGreatDoorTxFuncOne
import Derived.Test.YtadhlnlcdljamaaGreatDoorTxFunc
namespace Go.Proofs.YtadhlnlcdljamaaGreatDoor.V
set_option maxRecDepth 20000
open Go.RowKit
set_option linter.unusedVariables false

def rowS {α : Type} (X : Tks) (E : Nat → Res α) (f j : Nat) : List α → Res (List α)
  | [] => if ((X.tx j).toList == tC 41) = true then .ok [] (j + 1) else (E j).bind fun a j => argsL X E (X.ts.length + 1) j [a]
  | u :: us => argsL X E f j (u :: us)
theorem rowS_nil {α : Type} {X : Tks} {E : Nat → Res α} {f j : Nat} : rowS X E f j [] = if ((X.tx j).toList == tC 41) = true then .ok [] (j + 1) else (E j).bind fun a j => argsL X E (X.ts.length + 1) j [a] := rfl
theorem rowS_cons {α : Type} {X : Tks} {E : Nat → Res α} {f j : Nat} {u : α} {us : List α} : rowS X E f j (u :: us) = argsL X E f j (u :: us) := rfl
theorem rowS_end {α : Type} {X : Tks} {E : Nat → Res α} {f j : Nat} {us : List α} (hc : ((X.tx j).toList == tC 41) = true) (hf : us = [] ∨ X.ts.length - j < f) : rowS X E f j us = .ok us (j + 1) := by
  cases us with
  | nil => rw [rowS_nil, if_pos hc]
  | cons u us =>
    obtain ⟨f, rfl⟩ : ∃ g, f = g + 1 := by
      rcases hf with h | h
      · cases h
      · exact ⟨f - 1, by omega⟩
    rw [rowS_cons, argsL_succ, if_neg (by rw [tx_is hc]; decide +kernel), if_pos hc]
theorem rowS_more {α : Type} {X : Tks} {E : Nat → Res α} {f j : Nat} {us : List α} (a : α) : rowS X E f j (us ++ [a]) = argsL X E f j (us ++ [a]) := by
  cases us <;> rfl
theorem two_put1 {t : TypeId} {w : World} {b : Nat} {c0 c1 : Value} (h : TwoAt t w b c0 c1) (d : Value) : TwoAt t (w.setCell ⟨b, 1, none⟩ d) b c0 d := by
  unfold TwoAt at *
  simp [World.setCell, Array.getElem?_modify, h]
theorem giv_kept {us : List (ByteArray × List (ByteArray × Int))} {v : Value} {M b0 b1 : Nat} {w0 w6 w7 w8 : World} (h : GrowV GivenV 54 2 w0 M (V.far M) us v) (hb : Below w0.heap.size w0 w6) (h1 : w6.grownBy w7 (some b0)) (h2 : w7.grownBy w8 (some b1)) (hb0 : w0.heap.size ≤ b0) (hb1 : w0.heap.size ≤ b1) : GrowV GivenV 54 2 w8 M (V.far M) us v := by
  obtain ⟨cs, ho, hv⟩ := h
  have o6 := ho.kept (hb.by none) (by cases v.ownBlock <;> simp)
  have o7 := o6.kept h1 (.inr (fun e => by have := (ho.lt _ e).2; omega))
  have o8 := o7.kept h2 (.inr (fun e => by have := (ho.lt _ e).2; omega))
  refine ⟨cs, o8, hv.mono fun a c h => ?_⟩
  have k : Keep (fun b => (V.far M b ∧ some b ≠ v.ownBlock) ∧ b < w0.heap.size) w0 w8 := ((Keep.of_below hb).trans (Keep.of_grown h1 (fun b hb _ => by have := hb.2; simp; omega))).trans (Keep.of_grown h2 (fun b hb _ => by have := hb.2; simp; omega))
  exact GivenV.stays.weaken (GivenV.stays.keep (GivenV.stays.weaken h (fun b hl hb => ⟨hb, hl⟩)) k) (fun b _ hb => hb.1)
/-- Parameters as a value. -/
def repGs (w0 : World) (w : World) (gs : List (ByteArray × List (ByteArray × Int))) (v : Value) : Prop := SliceV GivenV w (from_ w0) gs v

set_option maxRecDepth 100000 in
set_option maxHeartbeats 8000000 in
theorem rGiven {X : Tks} {A : Option Addr} {c : Nat} {w : World} (ok : X.Ok) (h : LsAt X A c w) (i : Nat) (hi : i ≤ X.ts.length) : Calls Tryz.prog 27 #[lsV X A c, .int .i64 (i : Int)] w (RefP isSl (repGs w) (rowS X (givenS X) 0 i []) w) := by
  obtain ⟨i0, hi0, hz0, hz1, hz2⟩ := info_parts givenInfo
  have HI := hide hi0
  have HI0 := hide hz0
  have HI1 := hide hz1
  have HI2 := hide hz2
  have HOK := hide ok
  have HSM : Hid (∀ j, (X.tx j).size ≤ 65536) := ok.small
  have HX0 := hide (Bx.new h)
  have hxl := h.len
  unfold lsV
  clear h ok hi0 hz0 hz1 hz2
  obtain ⟨r0, hr0⟩ : ∃ r0, r0 = rowS X (givenS X) 0 i [] := ⟨_, rfl⟩
  rw [← hr0]
  have HR0 := hide hr0
  clear hr0
  go_enter Tryz.func27, Tryz.ntmps27
  go_wp2
  go_loopw [1, 7] (fun vi vo wr => ∃ (f j : Nat) (gs : List (ByteArray × List (ByteArray × Int))), vi = .int .i64 (j : Int) ∧ j ≤ X.ts.length ∧ Bx X A c w.heap.size (w.heap.size + 1) w wr ∧ r0 = rowS X (givenS X) f j gs ∧ (gs = [] ∨ X.ts.length - j < f) ∧ gs.length ≤ j ∧ w.heap.size + 2 ≤ wr.heap.size ∧ GrowV GivenV 54 2 wr (w.heap.size + 2) (far (w.heap.size + 2)) gs vo) (fun vi _ _ => X.ts.length + 1 - (intOf vi).toNat)
  case atStart => exact ⟨0, i, [], rfl, hi, HX0.out, HR0.out, .inl rfl, Nat.zero_le _, by have := HX0.out.d.lt; omega, GrowV.nil _ _ _ _ _ _⟩
  case round =>
    obtain ⟨f, j, gs, rfl, hjl, hX, hr, hf, hl, hsz, hG⟩ := hrel
    obtain ⟨Ao, co, rfl⟩ := hG.form
    have HX2 := hide hX
    have HG2 := hide hG
    obtain ⟨n, hn⟩ : ∃ n, n = gs.length := ⟨_, rfl⟩
    have HN := hide hn
    rw [← hn] at HG2 ⊢
    obtain ⟨⟨q0, q1⟩, fq0, fq1⟩ := HX2.out.t.cells
    obtain ⟨⟨d0, d1⟩, fd0, fd1⟩ := HX2.out.d.cells
    clear hX hG HX0 HR0 hn
    cases hc : ((X.tx j).toList == [41]) with
    | true =>
      have HSL : Hid (r0 = .ok gs (j + 1)) := by rw [Hid, hr, rowS_end hc hf]
      clear hr
      go_wp2_with (first
        | (go_at_call 24; refine (rText HX2.out.l (j)).mono ?_; rintro e w3 ⟨rfl, hb⟩; have HX3 := hide (HX2.out.below hb); have HG3 := hide (HG2.out.far GivenV.stays hb); clear HX2 HG2; clear q0 q1 fq0 fq1 d0 d1 fd0 fd1; obtain ⟨⟨q0, q1⟩, fq0, fq1⟩ := HX3.out.t.cells; obtain ⟨⟨d0, d1⟩, fd0, fd1⟩ := HX3.out.d.cells; clear hb)
        )
      have HP := hide (HX3.out.d.put (.int .i64 0) (.int .i64 0))
      have HO := hide (TwoAt.out (w := w3) (b := w.heap.size + 1) (.int .i64 0) (.int .i64 0))
      have HBF := hide (below_grown HX3.out.bw HO.out (fun g e => by cases e; omega))
      obtain ⟨⟨u0, u1⟩, _, _⟩ := HP.out.cells
      refine bodyPost_ret (v := .tuple #[.slice Ao n co, .int .i64 ((j : Int) + 1), .agg #[.int .i64 0, .int .i64 0]]) (by simp [results, Tryz.results27, go_sem, u0, u1]) rfl ?_
      rw [HSL.out]
      have HS3 := HG3.out.slice GivenV.stays (fun _ h => h)
      exact ⟨HBF.out, _, by simp, GivenV.stays.slice_weaken (GivenV.stays.slice HS3 (far_keep HO.out (by omega))) (fun b _ hb => by have h9 : w.heap.size + 2 ≤ b := hb; unfold from_; omega)⟩
    | false =>
      go_upto_if 16 with (go_at_call 24; refine (rText HX2.out.l (j)).mono ?_; rintro e w3 ⟨rfl, hb⟩; have HX3 := hide (HX2.out.below hb); have HG3 := hide (HG2.out.far GivenV.stays hb); clear HX2 HG2; clear q0 q1 fq0 fq1 d0 d1 fd0 fd1; obtain ⟨⟨q0, q1⟩, fq0, fq1⟩ := HX3.out.t.cells; obtain ⟨⟨d0, d1⟩, fd0, fd1⟩ := HX3.out.d.cells; have hz3 : w.heap.size + 2 ≤ w3.heap.size := Nat.le_trans hsz hb.size; clear hb)
      go_cut [1, 7] (fun v1 v7 wr => ∃ (p F : Nat), v1 = .int .i64 (p : Int) ∧ v7 = .slice Ao n co ∧ p ≤ X.ts.length ∧ j ≤ p ∧ r0 = (givenS X p).bind (fun a j' => argsL X (givenS X) F j' (gs ++ [a])) ∧ X.ts.length - p ≤ F ∧ gs.length ≤ p ∧ Bx X A c w.heap.size (w.heap.size + 1) w wr ∧ w.heap.size + 2 ≤ wr.heap.size ∧ GrowV GivenV 54 2 wr (w.heap.size + 2) (far (w.heap.size + 2)) gs (.slice Ao n co))
      case first =>
        cases gs with
        | nil =>
          have h0 : ¬ (0 : Int) < (n : Int) := by have := HN.out; simp at this; omega
          go_wp2
          go_meet
          refine ⟨j, X.ts.length + 1, rfl, rfl, hjl, Nat.le_refl _, ?_, by omega, Nat.zero_le _, HX3.out, hz3, HG3.out⟩
          rw [hr, rowS_nil, if_neg (by rw [hc]; simp)]
          rfl
        | cons u us =>
          have h0 : (0 : Int) < (n : Int) := by have := HN.out; simp at this; omega
          obtain ⟨f, rfl⟩ : ∃ g, f = g + 1 := by
            rcases hf with h | h
            · cases h
            · exact ⟨f - 1, by omega⟩
          have hf2 : X.ts.length - j < f + 1 := by
            rcases hf with h | h
            · cases h
            · exact h
          have hl2 : us.length + 1 ≤ j := hl
          clear hl
          rw [rowS_cons, argsL_succ] at hr
          cases hd : ((X.tx j).toList == [44]) with
          | false =>
            rw [if_neg (by rw [hd]; simp), if_neg (by rw [hc]; simp)] at hr
            have HSL := hide hr
            clear hr
            obtain ⟨p, hp⟩ : ∃ p, p = X.ps j := ⟨_, rfl⟩
            have HPP := hide hp
            clear hp
            go_wp2_with (first
              | (go_at_call 24; refine (rText HX3.out.l (j)).mono ?_; rintro e w4 ⟨rfl, hb⟩; have HX4 := hide (HX3.out.below hb); have HG4 := hide (HG3.out.far GivenV.stays hb); clear HX3 HG3; clear q0 q1 fq0 fq1 d0 d1 fd0 fd1; obtain ⟨⟨q0, q1⟩, fq0, fq1⟩ := HX4.out.t.cells; obtain ⟨⟨d0, d1⟩, fd0, fd1⟩ := HX4.out.d.cells; clear hb)
              | (go_at_call 25; refine (rBad HX4.out.l (j)).mono ?_; rw [← HPP.out]; rintro e w5 ⟨rfl, hb⟩; have HX5 := hide (HX4.out.below hb); clear HX4; clear q0 q1 fq0 fq1 d0 d1 fd0 fd1; obtain ⟨⟨q0, q1⟩, fq0, fq1⟩ := HX5.out.t.cells; obtain ⟨⟨d0, d1⟩, fd0, fd1⟩ := HX5.out.d.cells; clear hb)
              )
            have HP := hide (HX5.out.d.put (.int .i64 7) (.int .i64 (p : Int)))
            have HO := hide (TwoAt.out (w := w5) (b := w.heap.size + 1) (.int .i64 7) (.int .i64 (p : Int)))
            have HBF := hide (below_grown HX5.out.bw HO.out (fun g e => by cases e; omega))
            obtain ⟨⟨u0, u1⟩, _, _⟩ := HP.out.cells
            refine bodyPost_ret (v := .tuple #[.slice none 0 0, .int .i64 ((j : Int)), .agg #[.int .i64 7, .int .i64 (p : Int)]]) (by simp [results, Tryz.results27, go_sem, u0, u1]) rfl ?_
            rw [HSL.out, ← HPP.out]
            exact ⟨HBF.out, by decide, _, (j : Int), rfl, _, _, _, rfl⟩
          | true =>
            have hjl2 := Tks.lt_of hd (by simp)
            rw [if_pos hd] at hr
            go_wp2_with (go_at_call 24; refine (rText HX3.out.l (j)).mono ?_; rintro e w4 ⟨rfl, hb⟩; have HX4 := hide (HX3.out.below hb); have HG4 := hide (HG3.out.far GivenV.stays hb); clear HX3 HG3; clear q0 q1 fq0 fq1 d0 d1 fd0 fd1; obtain ⟨⟨q0, q1⟩, fq0, fq1⟩ := HX4.out.t.cells; obtain ⟨⟨d0, d1⟩, fd0, fd1⟩ := HX4.out.d.cells; have hz4 : w.heap.size + 2 ≤ w4.heap.size := Nat.le_trans hz3 hb.size; clear hb)
            go_meet
            exact ⟨j + 1, f, by go_num, rfl, by omega, by omega, hr, by omega, by show us.length + 1 ≤ j + 1; omega, HX4.out, hz4, HG4.out⟩
      case rest =>
        clear hr hf hl HX3 HG3 hz3 q0 q1 fq0 fq1 d0 d1 fd0 fd1
        obtain ⟨p, F, hv1, hv7, hpl, hjp, hr, hf, hl, hX, hz, hG⟩ := hcut
        subst hv1
        subst hv7
        have HX4 := hide hX
        have HG4 := hide hG
        have HGC := hide hG
        clear hX hG
        obtain ⟨⟨q0, q1⟩, fq0, fq1⟩ := HX4.out.t.cells
        obtain ⟨⟨d0, d1⟩, fd0, fd1⟩ := HX4.out.d.cells
        cases h1 : isNameB (X.tx p) with
        | false =>
          have HSL : Hid (r0 = .bad 7 (X.ps p)) := by
            rw [Hid, hr]
            unfold givenS nameS
            rw [if_neg (by rw [h1]; simp)]
            rfl
          clear hr
          obtain ⟨pp, hp⟩ : ∃ pp, pp = X.ps p := ⟨_, rfl⟩
          have HPP := hide hp
          clear hp
          go_wp2_with (first
            | (go_at_call 24; refine (rText HX4.out.l (p)).mono ?_; rintro e w5 ⟨rfl, hb⟩; have HX5 := hide (HX4.out.below hb); have HG5 := hide (HG4.out.far GivenV.stays hb); clear HX4 HG4; clear q0 q1 fq0 fq1 d0 d1 fd0 fd1; obtain ⟨⟨q0, q1⟩, fq0, fq1⟩ := HX5.out.t.cells; obtain ⟨⟨d0, d1⟩, fd0, fd1⟩ := HX5.out.d.cells; clear hb)
            | (go_at_call 26; refine (rIsName (X.tx p) _ (HSM.out _)).mono ?_; rw [h1]; rintro e w' ⟨rfl, hw'⟩; obtain rfl := hw'.symm; clear hw')
            | (go_at_call 25; refine (rBad HX5.out.l (p)).mono ?_; rw [← HPP.out]; rintro e w6 ⟨rfl, hb⟩; have HX6 := hide (HX5.out.below hb); clear HX5; clear q0 q1 fq0 fq1 d0 d1 fd0 fd1; obtain ⟨⟨q0, q1⟩, fq0, fq1⟩ := HX6.out.t.cells; obtain ⟨⟨d0, d1⟩, fd0, fd1⟩ := HX6.out.d.cells; clear hb)
            )
          have HP := hide (HX6.out.d.put (.int .i64 7) (.int .i64 (pp : Int)))
          have HO := hide (TwoAt.out (w := w6) (b := w.heap.size + 1) (.int .i64 7) (.int .i64 (pp : Int)))
          have HBF := hide (below_grown HX6.out.bw HO.out (fun g e => by cases e; omega))
          obtain ⟨⟨u0, u1⟩, _, _⟩ := HP.out.cells
          refine bodyPost_ret (v := .tuple #[.slice none 0 0, .int .i64 ((p : Int)), .agg #[.int .i64 7, .int .i64 (pp : Int)]]) (by simp [results, Tryz.results27, go_sem, u0, u1]) rfl ?_
          rw [HSL.out, ← HPP.out]
          exact ⟨HBF.out, by decide, _, (p : Int), rfl, _, _, _, rfl⟩
        | true =>
          have hpl1 := isNameB_lt h1
          cases h2 : ((X.tx (p + 1)).toList == [58]) with
          | false =>
            have HSL : Hid (r0 = .bad 7 (X.ps (p + 1))) := by
              rw [Hid, hr]
              unfold givenS nameS mustS
              rw [if_pos h1, Res.bind_ok, if_neg (by rw [h2]; simp)]
              rfl
            clear hr
            obtain ⟨pp, hp⟩ : ∃ pp, pp = X.ps (p + 1) := ⟨_, rfl⟩
            have HPP := hide hp
            clear hp
            have HB4 := hide (Below.refl wc.heap.size wc)
            go_upto_region 10 with (first
              | (go_at_call 24; refine (rText HX4.out.l (p)).mono ?_; rintro e w5 ⟨rfl, hb⟩; have HX5 := hide (HX4.out.below hb); have HG5 := hide (HG4.out.far GivenV.stays hb); clear HX4 HG4; clear q0 q1 fq0 fq1 d0 d1 fd0 fd1; obtain ⟨⟨q0, q1⟩, fq0, fq1⟩ := HX5.out.t.cells; obtain ⟨⟨d0, d1⟩, fd0, fd1⟩ := HX5.out.d.cells; have HB5 := hide (HB4.out.trans (hb.mono HB4.out.size)); clear hb)
              | (go_at_call 26; refine (rIsName (X.tx p) _ (HSM.out _)).mono ?_; rw [h1]; rintro e w' ⟨rfl, hw'⟩; obtain rfl := hw'.symm; clear hw')
              | (go_at_call 24; refine (rText HX5.out.l (p)).mono ?_; rintro e w6 ⟨rfl, hb⟩; have HX6 := hide (HX5.out.below hb); have HG6 := hide (HG5.out.far GivenV.stays hb); clear HX5 HG5; clear q0 q1 fq0 fq1 d0 d1 fd0 fd1; obtain ⟨⟨q0, q1⟩, fq0, fq1⟩ := HX6.out.t.cells; obtain ⟨⟨d0, d1⟩, fd0, fd1⟩ := HX6.out.d.cells; have HB6 := hide (HB5.out.trans (hb.mono HB5.out.size)); clear hb)
              )
            have HB7 := hide (HB6.out.alloc HB6.out.size (.cells #[.string (X.tx p), .slice none 0 0] 54))
            have hs6 := HX6.out.d.lt
            have HX7 := hide (HX6.out.alloc (.cells #[.string (X.tx p), .slice none 0 0] 54))
            have HG7 := hide (HG6.out.far GivenV.stays ((Below.refl _ w6).alloc (Nat.le_refl _) (.cells #[.string (X.tx p), .slice none 0 0] 54)))
            have HT7 := hide (TwoAt.new 54 w6 (.string (X.tx p)) (.slice none 0 0))
            have hs7 : (w6.alloc (.cells #[.string (X.tx p), .slice none 0 0] 54)).heap.size = w6.heap.size + 1 := by simp
            obtain ⟨w7, hw7⟩ : ∃ w7, w7 = w6.alloc (.cells #[.string (X.tx p), .slice none 0 0] 54) := ⟨_, rfl⟩
            rw [← hw7] at HX7 HG7 HT7 HB7 hs7 ⊢
            have hs77 : w6.heap.size < w7.heap.size := by omega
            clear hw7 hs7
            clear q0 q1 fq0 fq1 d0 d1 fd0 fd1
            obtain ⟨⟨q0, q1⟩, fq0, fq1⟩ := HX7.out.t.cells
            obtain ⟨⟨d0, d1⟩, fd0, fd1⟩ := HX7.out.d.cells
            obtain ⟨⟨t0, t1⟩, ft0, ft1⟩ := HT7.out.cells
            go_wp2_with (first
              | (go_at_call 24; refine (rText HX7.out.l (p + 1)).mono ?_; rintro e w8 ⟨rfl, hb⟩; have HX8 := hide (HX7.out.below hb); have HG8 := hide (HG7.out.far GivenV.stays hb); clear HX7 HG7; clear q0 q1 fq0 fq1 d0 d1 fd0 fd1; obtain ⟨⟨q0, q1⟩, fq0, fq1⟩ := HX8.out.t.cells; obtain ⟨⟨d0, d1⟩, fd0, fd1⟩ := HX8.out.d.cells; clear hb)
              | (go_at_call 25; refine (rBad HX8.out.l (p + 1)).mono ?_; rw [← HPP.out]; rintro e w9 ⟨rfl, hb⟩; have HX9 := hide (HX8.out.below hb); clear HX8; clear q0 q1 fq0 fq1 d0 d1 fd0 fd1; obtain ⟨⟨q0, q1⟩, fq0, fq1⟩ := HX9.out.t.cells; obtain ⟨⟨d0, d1⟩, fd0, fd1⟩ := HX9.out.d.cells; clear hb)
              )
            have HP := hide (HX9.out.d.put (.int .i64 7) (.int .i64 (pp : Int)))
            have HO := hide (TwoAt.out (w := w9) (b := w.heap.size + 1) (.int .i64 7) (.int .i64 (pp : Int)))
            have HBF := hide (below_grown HX9.out.bw HO.out (fun g e => by cases e; omega))
            obtain ⟨⟨u0, u1⟩, _, _⟩ := HP.out.cells
            refine bodyPost_ret (v := .tuple #[.slice none 0 0, .int .i64 ((p : Int)), .agg #[.int .i64 7, .int .i64 (pp : Int)]]) (by simp [results, Tryz.results27, go_sem, u0, u1]) rfl ?_
            rw [HSL.out, ← HPP.out]
            exact ⟨HBF.out, by decide, _, (p : Int), rfl, _, _, _, rfl⟩
          | true =>
            have hpl2 := Tks.lt_of h2 (by simp)
            cases h3 : shapeS X (p + 2) with
            | bad Te ke =>
              have HRR : Hid (r0 = (shapeS X (p + 2)).bind fun ds j' => argsL X (givenS X) F j' (gs ++ [(X.tx p, ds)])) := by
                rw [Hid, hr]
                unfold givenS nameS mustS
                rw [if_pos h1, Res.bind_ok, if_pos h2, Res.bind_ok]
                cases shapeS X (p + 2) <;> rfl
              clear hr
              have HB4 := hide (Below.refl wc.heap.size wc)
              go_upto_region 10 with (first
                | (go_at_call 24; refine (rText HX4.out.l (p)).mono ?_; rintro e w5 ⟨rfl, hb⟩; have HX5 := hide (HX4.out.below hb); have HG5 := hide (HG4.out.far GivenV.stays hb); clear HX4 HG4; clear q0 q1 fq0 fq1 d0 d1 fd0 fd1; obtain ⟨⟨q0, q1⟩, fq0, fq1⟩ := HX5.out.t.cells; obtain ⟨⟨d0, d1⟩, fd0, fd1⟩ := HX5.out.d.cells; have HB5 := hide (HB4.out.trans (hb.mono HB4.out.size)); clear hb)
                | (go_at_call 26; refine (rIsName (X.tx p) _ (HSM.out _)).mono ?_; rw [h1]; rintro e w' ⟨rfl, hw'⟩; obtain rfl := hw'.symm; clear hw')
                | (go_at_call 24; refine (rText HX5.out.l (p)).mono ?_; rintro e w6 ⟨rfl, hb⟩; have HX6 := hide (HX5.out.below hb); have HG6 := hide (HG5.out.far GivenV.stays hb); clear HX5 HG5; clear q0 q1 fq0 fq1 d0 d1 fd0 fd1; obtain ⟨⟨q0, q1⟩, fq0, fq1⟩ := HX6.out.t.cells; obtain ⟨⟨d0, d1⟩, fd0, fd1⟩ := HX6.out.d.cells; have HB6 := hide (HB5.out.trans (hb.mono HB5.out.size)); clear hb)
                )
              have HB7 := hide (HB6.out.alloc HB6.out.size (.cells #[.string (X.tx p), .slice none 0 0] 54))
              have hs6 := HX6.out.d.lt
              have HX7 := hide (HX6.out.alloc (.cells #[.string (X.tx p), .slice none 0 0] 54))
              have HG7 := hide (HG6.out.far GivenV.stays ((Below.refl _ w6).alloc (Nat.le_refl _) (.cells #[.string (X.tx p), .slice none 0 0] 54)))
              have HT7 := hide (TwoAt.new 54 w6 (.string (X.tx p)) (.slice none 0 0))
              have hs7 : (w6.alloc (.cells #[.string (X.tx p), .slice none 0 0] 54)).heap.size = w6.heap.size + 1 := by simp
              obtain ⟨w7, hw7⟩ : ∃ w7, w7 = w6.alloc (.cells #[.string (X.tx p), .slice none 0 0] 54) := ⟨_, rfl⟩
              rw [← hw7] at HX7 HG7 HT7 HB7 hs7 ⊢
              have hs77 : w6.heap.size < w7.heap.size := by omega
              clear hw7 hs7
              clear q0 q1 fq0 fq1 d0 d1 fd0 fd1
              obtain ⟨⟨q0, q1⟩, fq0, fq1⟩ := HX7.out.t.cells
              obtain ⟨⟨d0, d1⟩, fd0, fd1⟩ := HX7.out.d.cells
              obtain ⟨⟨t0, t1⟩, ft0, ft1⟩ := HT7.out.cells
              go_upto_region 14 with (first
                | (go_at_call 24; refine (rText HX7.out.l (p + 1)).mono ?_; rintro e w8 ⟨rfl, hb⟩; have HX8 := hide (HX7.out.below hb); have HG8 := hide (HG7.out.far GivenV.stays hb); have HT8 := hide (HT7.out.below hb); clear HX7 HG7; clear q0 q1 fq0 fq1 d0 d1 fd0 fd1; obtain ⟨⟨q0, q1⟩, fq0, fq1⟩ := HX8.out.t.cells; obtain ⟨⟨d0, d1⟩, fd0, fd1⟩ := HX8.out.d.cells; have HB8 := hide (HB7.out.trans (hb.mono HB7.out.size)); clear t0 t1 ft0 ft1; obtain ⟨⟨t0, t1⟩, ft0, ft1⟩ := HT8.out.cells; have hb8 := hb; have hs8 : w7.heap.size ≤ w8.heap.size := hb.size; obtain ⟨⟨q2, q3⟩, _, _⟩ := (HX8.out.alloc (.cells #[.int .i64 0, .int .i64 0] 25)).t.cells; clear hb8; clear hb)
                | (go_at_call 44; refine (rShape HOK.out (HX8.out.alloc (.cells #[.int .i64 0, .int .i64 0] 25)).l (p + 2) (by omega)).mono ?_; intro e w9 hr; obtain ⟨hb, A9, n9, m9, E9, K9, J9, rfl, hst⟩ := hr.anyD; have HST := hide hst; have hb9 : Below w8.heap.size w8 w9 := ((Below.refl _ w8).alloc (Nat.le_refl _) (.cells #[.int .i64 0, .int .i64 0] 25)).trans (hb.mono (by simp)); have HB9 := hide (HB8.out.trans (hb9.mono HB8.out.size)); have HZ9 := hide hb9; have HX9 := hide (HX8.out.below hb9); have HT9 := hide (HT8.out.below hb9); have HF9 : Hid (TwoAt 25 w9 w8.heap.size (.int .i64 0) (.int .i64 0)) := (TwoAt.new 25 w8 (.int .i64 0) (.int .i64 0)).below hb; have hs9 : w8.heap.size < w9.heap.size := (by have := hb.size; simp at this; omega); have HG9 := hide (HG8.out.far GivenV.stays hb9); clear q2 q3; clear q0 q1 fq0 fq1 d0 d1 fd0 fd1; clear t0 t1 ft0 ft1; obtain ⟨⟨q0, q1⟩, fq0, fq1⟩ := HX9.out.t.cells; obtain ⟨⟨d0, d1⟩, fd0, fd1⟩ := HX9.out.d.cells; obtain ⟨⟨t0, t1⟩, ft0, ft1⟩ := HT9.out.cells; obtain ⟨⟨g0, g1⟩, fg0, fg1⟩ := HF9.out.cells; clear hb hb9 hr hst)
                )
              have hoT := set_out w9 w6.heap.size 1 (.slice A9 n9 m9)
              have hoF := TwoAt.out (w := (w9.setCell ⟨w6.heap.size, 1, none⟩ (.slice A9 n9 m9))) (b := w8.heap.size) (.int .i64 E9) (.int .i64 (K9 : Int))
              have HX10 := hide ((HX9.out.grown hoT (by simp <;> omega) (by simp <;> omega) (fun g e => by cases e; omega)).grown hoF (by simp <;> omega) (by simp <;> omega) (fun g e => by cases e; omega))
              have HT10 := hide ((two_put1 HT9.out (.slice A9 n9 m9)).grown hoF (by simp <;> omega))
              have HF10 := hide ((HF9.out.grown hoT (by simp <;> omega)).put (.int .i64 E9) (.int .i64 (K9 : Int)))
              have HG10 : Hid (GrowV GivenV 54 2 (((w9.setCell ⟨w6.heap.size, 1, none⟩ (.slice A9 n9 m9)).setCell ⟨w8.heap.size, 0, none⟩ (.int .i64 E9)).setCell ⟨w8.heap.size, 1, none⟩ (.int .i64 (K9 : Int))) (w.heap.size + 2) (far (w.heap.size + 2)) gs (.slice Ao n co)) := giv_kept HGC.out HB9.out hoT hoF (by have := HB6.out.size; omega) (by have := HB8.out.size; omega)
              have HK10 : Hid (Keep (fun b => w8.heap.size < b) w9 (((w9.setCell ⟨w6.heap.size, 1, none⟩ (.slice A9 n9 m9)).setCell ⟨w8.heap.size, 0, none⟩ (.int .i64 E9)).setCell ⟨w8.heap.size, 1, none⟩ (.int .i64 (K9 : Int)))) := (Keep.of_grown hoT (fun b hb _ => by simp <;> omega)).trans (Keep.of_grown hoF (fun b hb _ => by simp <;> omega))
              have hs10 : w9.heap.size ≤ (((w9.setCell ⟨w6.heap.size, 1, none⟩ (.slice A9 n9 m9)).setCell ⟨w8.heap.size, 0, none⟩ (.int .i64 E9)).setCell ⟨w8.heap.size, 1, none⟩ (.int .i64 (K9 : Int))).heap.size := Nat.le_trans hoT.size hoF.size
              obtain ⟨w10, hw10⟩ : ∃ w10, w10 = (((w9.setCell ⟨w6.heap.size, 1, none⟩ (.slice A9 n9 m9)).setCell ⟨w8.heap.size, 0, none⟩ (.int .i64 E9)).setCell ⟨w8.heap.size, 1, none⟩ (.int .i64 (K9 : Int))) := ⟨_, rfl⟩
              rw [← hw10] at HX10 HT10 HF10 HG10 HK10 hs10 ⊢
              clear hw10 hoT hoF q0 q1 fq0 fq1 d0 d1 fd0 fd1  t0 t1 ft0 ft1 g0 g1 fg0 fg1
              obtain ⟨⟨q0, q1⟩, fq0, fq1⟩ := HX10.out.t.cells
              obtain ⟨⟨d0, d1⟩, fd0, fd1⟩ := HX10.out.d.cells
              obtain ⟨⟨t0, t1⟩, ft0, ft1⟩ := HT10.out.cells
              obtain ⟨⟨g0, g1⟩, fg0, fg1⟩ := HF10.out.cells
              obtain ⟨hE9, hK9, hne⟩ : E9 = Te ∧ K9 = ke ∧ Te ≠ 0 := by
                rcases HST.out with ⟨l, j, h4, _⟩ | ⟨h4, h5⟩
                · rw [h3] at h4; cases h4
                · rw [h3] at h4; cases h4; exact ⟨rfl, rfl, h5⟩
              subst hE9
              subst hK9
              have hne0 : (E9 == 0) = false := by simpa using hne
              have HNE := hide hne
              clear hne
              have hd1 := HX10.out.d.lt
              go_wp2
              go_region
              have HP := hide (HX10.out.d.put (.int .i64 E9) (.int .i64 (K9 : Int)))
              have HO := hide (TwoAt.out (w := w10) (b := w.heap.size + 1) (.int .i64 E9) (.int .i64 (K9 : Int)))
              have HBG := hide (below_grown HX10.out.bw HO.out (fun g e => by cases e; omega))
              obtain ⟨wg, hwg⟩ : ∃ wg, wg = (w10.setCell ⟨w.heap.size + 1, 0, none⟩ (.int .i64 E9)).setCell ⟨w.heap.size + 1, 1, none⟩ (.int .i64 (K9 : Int)) := ⟨_, rfl⟩
              rw [← hwg] at HP HBG ⊢
              clear hwg HO
              obtain ⟨⟨u0, u1⟩, _, _⟩ := (TwoAt.drew HP.out).cells
              have HBF := hide HBG.out.drew
              obtain ⟨wf, hwf⟩ : ∃ wf, wf = wg.drew := ⟨_, rfl⟩
              rw [← hwf] at u0 u1 HBF ⊢
              clear hwf
              go_wp2
              refine bodyPost_ret (v := .tuple #[.slice none 0 0, .int .i64 (J9), .agg #[.int .i64 E9, .int .i64 (K9 : Int)]]) (by simp [results, Tryz.results27, go_sem, u0, u1]) rfl ?_
              rw [HRR.out, h3]
              exact ⟨HBF.out, HNE.out, _, J9, rfl, _, _, _, rfl⟩
            | ok ds j9 =>
              have HRR : Hid (r0 = (shapeS X (p + 2)).bind fun ds j' => argsL X (givenS X) F j' (gs ++ [(X.tx p, ds)])) := by
                rw [Hid, hr]
                unfold givenS nameS mustS
                rw [if_pos h1, Res.bind_ok, if_pos h2, Res.bind_ok]
                cases shapeS X (p + 2) <;> rfl
              clear hr
              have hj9 := shapeS_lt h3
              have hj9l := shapeS_le h3
              have HB4 := hide (Below.refl wc.heap.size wc)
              go_upto_region 10 with (first
                | (go_at_call 24; refine (rText HX4.out.l (p)).mono ?_; rintro e w5 ⟨rfl, hb⟩; have HX5 := hide (HX4.out.below hb); have HG5 := hide (HG4.out.far GivenV.stays hb); clear HX4 HG4; clear q0 q1 fq0 fq1 d0 d1 fd0 fd1; obtain ⟨⟨q0, q1⟩, fq0, fq1⟩ := HX5.out.t.cells; obtain ⟨⟨d0, d1⟩, fd0, fd1⟩ := HX5.out.d.cells; have HB5 := hide (HB4.out.trans (hb.mono HB4.out.size)); clear hb)
                | (go_at_call 26; refine (rIsName (X.tx p) _ (HSM.out _)).mono ?_; rw [h1]; rintro e w' ⟨rfl, hw'⟩; obtain rfl := hw'.symm; clear hw')
                | (go_at_call 24; refine (rText HX5.out.l (p)).mono ?_; rintro e w6 ⟨rfl, hb⟩; have HX6 := hide (HX5.out.below hb); have HG6 := hide (HG5.out.far GivenV.stays hb); clear HX5 HG5; clear q0 q1 fq0 fq1 d0 d1 fd0 fd1; obtain ⟨⟨q0, q1⟩, fq0, fq1⟩ := HX6.out.t.cells; obtain ⟨⟨d0, d1⟩, fd0, fd1⟩ := HX6.out.d.cells; have HB6 := hide (HB5.out.trans (hb.mono HB5.out.size)); clear hb)
                )
              have HB7 := hide (HB6.out.alloc HB6.out.size (.cells #[.string (X.tx p), .slice none 0 0] 54))
              have hs6 := HX6.out.d.lt
              have HX7 := hide (HX6.out.alloc (.cells #[.string (X.tx p), .slice none 0 0] 54))
              have HG7 := hide (HG6.out.far GivenV.stays ((Below.refl _ w6).alloc (Nat.le_refl _) (.cells #[.string (X.tx p), .slice none 0 0] 54)))
              have HT7 := hide (TwoAt.new 54 w6 (.string (X.tx p)) (.slice none 0 0))
              have hs7 : (w6.alloc (.cells #[.string (X.tx p), .slice none 0 0] 54)).heap.size = w6.heap.size + 1 := by simp
              obtain ⟨w7, hw7⟩ : ∃ w7, w7 = w6.alloc (.cells #[.string (X.tx p), .slice none 0 0] 54) := ⟨_, rfl⟩
              rw [← hw7] at HX7 HG7 HT7 HB7 hs7 ⊢
              have hs77 : w6.heap.size < w7.heap.size := by omega
              clear hw7 hs7
              clear q0 q1 fq0 fq1 d0 d1 fd0 fd1
              obtain ⟨⟨q0, q1⟩, fq0, fq1⟩ := HX7.out.t.cells
              obtain ⟨⟨d0, d1⟩, fd0, fd1⟩ := HX7.out.d.cells
              obtain ⟨⟨t0, t1⟩, ft0, ft1⟩ := HT7.out.cells
              go_upto_region 14 with (first
                | (go_at_call 24; refine (rText HX7.out.l (p + 1)).mono ?_; rintro e w8 ⟨rfl, hb⟩; have HX8 := hide (HX7.out.below hb); have HG8 := hide (HG7.out.far GivenV.stays hb); have HT8 := hide (HT7.out.below hb); clear HX7 HG7; clear q0 q1 fq0 fq1 d0 d1 fd0 fd1; obtain ⟨⟨q0, q1⟩, fq0, fq1⟩ := HX8.out.t.cells; obtain ⟨⟨d0, d1⟩, fd0, fd1⟩ := HX8.out.d.cells; have HB8 := hide (HB7.out.trans (hb.mono HB7.out.size)); clear t0 t1 ft0 ft1; obtain ⟨⟨t0, t1⟩, ft0, ft1⟩ := HT8.out.cells; have hb8 := hb; have hs8 : w7.heap.size ≤ w8.heap.size := hb.size; obtain ⟨⟨q2, q3⟩, _, _⟩ := (HX8.out.alloc (.cells #[.int .i64 0, .int .i64 0] 25)).t.cells; clear hb8; clear hb)
                | (go_at_call 44; refine (rShape HOK.out (HX8.out.alloc (.cells #[.int .i64 0, .int .i64 0] 25)).l (p + 2) (by omega)).mono ?_; intro e w9 hr; obtain ⟨hb, A9, n9, m9, E9, K9, J9, rfl, hst⟩ := hr.anyD; have HST := hide hst; have hb9 : Below w8.heap.size w8 w9 := ((Below.refl _ w8).alloc (Nat.le_refl _) (.cells #[.int .i64 0, .int .i64 0] 25)).trans (hb.mono (by simp)); have HB9 := hide (HB8.out.trans (hb9.mono HB8.out.size)); have HZ9 := hide hb9; have HX9 := hide (HX8.out.below hb9); have HT9 := hide (HT8.out.below hb9); have HF9 : Hid (TwoAt 25 w9 w8.heap.size (.int .i64 0) (.int .i64 0)) := (TwoAt.new 25 w8 (.int .i64 0) (.int .i64 0)).below hb; have hs9 : w8.heap.size < w9.heap.size := (by have := hb.size; simp at this; omega); have HG9 := hide (HG8.out.far GivenV.stays hb9); clear q2 q3; clear q0 q1 fq0 fq1 d0 d1 fd0 fd1; clear t0 t1 ft0 ft1; obtain ⟨⟨q0, q1⟩, fq0, fq1⟩ := HX9.out.t.cells; obtain ⟨⟨d0, d1⟩, fd0, fd1⟩ := HX9.out.d.cells; obtain ⟨⟨t0, t1⟩, ft0, ft1⟩ := HT9.out.cells; obtain ⟨⟨g0, g1⟩, fg0, fg1⟩ := HF9.out.cells; clear hb hb9 hr hst)
                )
              have hoT := set_out w9 w6.heap.size 1 (.slice A9 n9 m9)
              have hoF := TwoAt.out (w := (w9.setCell ⟨w6.heap.size, 1, none⟩ (.slice A9 n9 m9))) (b := w8.heap.size) (.int .i64 E9) (.int .i64 (K9 : Int))
              have HX10 := hide ((HX9.out.grown hoT (by simp <;> omega) (by simp <;> omega) (fun g e => by cases e; omega)).grown hoF (by simp <;> omega) (by simp <;> omega) (fun g e => by cases e; omega))
              have HT10 := hide ((two_put1 HT9.out (.slice A9 n9 m9)).grown hoF (by simp <;> omega))
              have HF10 := hide ((HF9.out.grown hoT (by simp <;> omega)).put (.int .i64 E9) (.int .i64 (K9 : Int)))
              have HG10 : Hid (GrowV GivenV 54 2 (((w9.setCell ⟨w6.heap.size, 1, none⟩ (.slice A9 n9 m9)).setCell ⟨w8.heap.size, 0, none⟩ (.int .i64 E9)).setCell ⟨w8.heap.size, 1, none⟩ (.int .i64 (K9 : Int))) (w.heap.size + 2) (far (w.heap.size + 2)) gs (.slice Ao n co)) := giv_kept HGC.out HB9.out hoT hoF (by have := HB6.out.size; omega) (by have := HB8.out.size; omega)
              have HK10 : Hid (Keep (fun b => w8.heap.size < b) w9 (((w9.setCell ⟨w6.heap.size, 1, none⟩ (.slice A9 n9 m9)).setCell ⟨w8.heap.size, 0, none⟩ (.int .i64 E9)).setCell ⟨w8.heap.size, 1, none⟩ (.int .i64 (K9 : Int)))) := (Keep.of_grown hoT (fun b hb _ => by simp <;> omega)).trans (Keep.of_grown hoF (fun b hb _ => by simp <;> omega))
              have hs10 : w9.heap.size ≤ (((w9.setCell ⟨w6.heap.size, 1, none⟩ (.slice A9 n9 m9)).setCell ⟨w8.heap.size, 0, none⟩ (.int .i64 E9)).setCell ⟨w8.heap.size, 1, none⟩ (.int .i64 (K9 : Int))).heap.size := Nat.le_trans hoT.size hoF.size
              obtain ⟨w10, hw10⟩ : ∃ w10, w10 = (((w9.setCell ⟨w6.heap.size, 1, none⟩ (.slice A9 n9 m9)).setCell ⟨w8.heap.size, 0, none⟩ (.int .i64 E9)).setCell ⟨w8.heap.size, 1, none⟩ (.int .i64 (K9 : Int))) := ⟨_, rfl⟩
              rw [← hw10] at HX10 HT10 HF10 HG10 HK10 hs10 ⊢
              clear hw10 hoT hoF q0 q1 fq0 fq1 d0 d1 fd0 fd1  t0 t1 ft0 ft1 g0 g1 fg0 fg1
              obtain ⟨⟨q0, q1⟩, fq0, fq1⟩ := HX10.out.t.cells
              obtain ⟨⟨d0, d1⟩, fd0, fd1⟩ := HX10.out.d.cells
              obtain ⟨⟨t0, t1⟩, ft0, ft1⟩ := HT10.out.cells
              obtain ⟨⟨g0, g1⟩, fg0, fg1⟩ := HF10.out.cells
              have hsl : J9 = (j9 : Int) ∧ E9 = 0 ∧ K9 = 0 ∧ SliceV DimV w9 (from_ (w8.alloc (.cells #[.int .i64 0, .int .i64 0] 25))) ds (.slice A9 n9 m9) := by
                rcases HST.out with ⟨l, j, h4, h5, h6, h7, h8⟩ | ⟨h4, h5⟩
                · rw [h3] at h4; cases h4; exact ⟨h5, h6, h7, h8⟩
                · rw [h3] at h4; cases h4
              obtain ⟨rfl, rfl, rfl, hsv⟩ := hsl
              have HSV := hide hsv
              clear hsv
              obtain ⟨csr, ho, hv⟩ := HG10.out
              have HO10 := hide ho
              have HV10 := hide hv
              clear ho hv HG10
              have HQC : Hid (∀ b, (Value.slice Ao n co).ownBlock = some b → b < wc.heap.size) := fun b e => by obtain ⟨_, ho, _⟩ := HGC.out; exact (ho.lt b e).2
              have hwcs : wc.heap.size ≤ w8.heap.size := HB8.out.size
              have HA10 : Hid (GivenV w10 (fun b => V.far (w.heap.size + 2) b ∧ some b ≠ (Value.slice Ao n co).ownBlock) (X.tx p, ds) [.string (X.tx p), .slice A9 n9 m9]) := ⟨_, rfl, DimV.stays.slice_weaken (DimV.stays.slice (DimV.stays.slice_weaken (S' := fun b => w8.heap.size < b) HSV.out (fun b hl hb => by have h9 : (w8.alloc (.cells #[.int .i64 0, .int .i64 0] 25)).heap.size ≤ b := hb; simp at h9; omega)) HK10.out) (fun b hl hb => ⟨by have h9 : w.heap.size + 2 ≤ b := (by omega); exact h9, fun e => by have := HQC.out b e.symm; omega⟩)⟩
              go_wp2_with (at_builtin; refine wpList_append_own_at _ rfl _ _ 42 rfl (w.heap.size + 2) 54 i0 _ 2 40 Tryz.underlying42 HI.out HI0.out HI1.out HI2.out rfl (by decide) _ _ _ rfl (HO10.out.alloc _) ⟨w10.heap.size, 0, none⟩ 1 1 [.string (X.tx p), .slice A9 n9 m9] rfl rfl ?c1 ?c2 ?c3 ?c4 ?c5 ?_)
              case c2 => exact ⟨rfl, rfl⟩
              case c3 => unfold maxLen; omega
              case c4 => omega
              case c5 => omega
              intro v' w11 hown' hgrow _ hat
              have hge : ∀ x, (Value.slice Ao n co).ownBlock = some x → w.heap.size + 2 ≤ x := fun x e => (HO10.out.lt x e).1
              have HX11 := hide ((HX10.out.alloc (.cells #[.string (X.tx p), .slice A9 n9 m9] 54)).grown hgrow (fun e => by have := hge _ e.symm; omega) (fun e => by have := hge _ e.symm; omega) (fun x e => by have := hge x e; omega))
              have HN11 := hide (grow_more (a := (X.tx p, ds)) GivenV.stays HV10.out HA10.out hgrow hat hown')
              have hs11 : w10.heap.size ≤ w11.heap.size := by have := hgrow.size; simp at this; omega
              clear hown' hgrow hat
              go_wp2
              go_roundw
              case rel => exact ⟨F, j9, gs ++ [(X.tx p, ds)], rfl, hj9l, HX11.out, by rw [HRR.out, h3, rowS_more]; rfl, .inr (by omega), by rw [List.length_append]; show gs.length + 1 ≤ j9; omega, by omega, HN11.out⟩
              case measure => simp [intOf]; omega
end Go.Proofs.YtadhlnlcdljamaaGreatDoor.V
namespace Go.Proofs.YtadhlnlcdljamaaGreatDoor.V
set_option maxRecDepth 20000
open Go.RowKit
set_option linter.unusedVariables false

abbrev NinZ (w : World) (b : Nat) : Prop := NinAt w b (.string ⟨#[]⟩) (.slice none 0 0) (.int .i64 0) (.string ⟨#[]⟩) (.int .i64 0) (.bool false) (.slice none 0 0) (.slice none 0 0) (.slice none 0 0)
structure Bn (X : Tks) (A : Option Addr) (c b Dt Df : Nat) (w W : World) : Prop where
  l0 : LsAt X A c w
  t : TwoAt 41 W b (.slice A X.ts.length c) (.int .i64 (X.n : Int))
  z : NinZ W Dt
  d : TwoAt 25 W Df (.int .i64 0) (.int .i64 0)
  bw : Below w.heap.size w W
section
variable {X : Tks} {A : Option Addr} {c b Dt Df : Nat} {w W W' : World}
theorem Bn.l (h : Bn X A c b Dt Df w W) : LsAt X A c W := h.l0.below h.bw
theorem Bn.below (h : Bn X A c b Dt Df w W) (hb : Below W.heap.size W W') : Bn X A c b Dt Df w W' := ⟨h.l0, h.t.below hb, h.z.below hb, h.d.below hb, h.bw.trans (hb.mono h.bw.size)⟩
theorem Bn.alloc (h : Bn X A c b Dt Df w W) (o : Obj) : Bn X A c b Dt Df w (W.alloc o) := h.below ((Below.refl _ _).alloc (Nat.le_refl _) o)
theorem Bn.grown {row : Option Nat} (h : Bn X A c b Dt Df w W) (hg : W.grownBy W' row) (h1 : some b ≠ row) (h2 : some Dt ≠ row) (h3 : some Df ≠ row) (hr : ∀ g, row = some g → w.heap.size ≤ g) : Bn X A c b Dt Df w W' := ⟨h.l0, h.t.grown hg h1, h.z.grown hg h2, h.d.grown hg h3, below_grown h.bw hg hr⟩
theorem Bn.drew (h : Bn X A c b Dt Df w W) : Bn X A c b Dt Df w W.drew := h.below (Below.refl _ _).drew
theorem NinAt.drew {c0 c1 c2 c3 c4 c5 c6 c7 c8 : Value} (h : NinAt W b c0 c1 c2 c3 c4 c5 c6 c7 c8) : NinAt W.drew b c0 c1 c2 c3 c4 c5 c6 c7 c8 := h
theorem NinAt.set0 {c0 c1 c2 c3 c4 c5 c6 c7 c8 : Value} (h : NinAt W b c0 c1 c2 c3 c4 c5 c6 c7 c8) (d : Value) : NinAt (W.setCell ⟨b, 0, none⟩ d) b d c1 c2 c3 c4 c5 c6 c7 c8 := by
  unfold NinAt at *
  simp [World.setCell, Array.getElem?_modify, h]
end
/-- The blocks of function at its beginning. -/
theorem func_new {X : Tks} {A : Option Addr} {c : Nat} {w : World} (h : LsAt X A c w) : Bn X A c w.heap.size (w.heap.size + 1) (w.heap.size + 2) w ((((w.alloc (.cells #[.slice A X.ts.length c, .int .i64 (X.n : Int)] 41)).alloc (.cells z9 49)).alloc (.cells #[.int .i64 0, .int .i64 0] 25)).alloc (.cells z9 49)) ∧ NinZ ((((w.alloc (.cells #[.slice A X.ts.length c, .int .i64 (X.n : Int)] 41)).alloc (.cells z9 49)).alloc (.cells #[.int .i64 0, .int .i64 0] 25)).alloc (.cells z9 49)) (w.heap.size + 3) := by
  refine ⟨⟨h, (((TwoAt.new _ _ _ _).alloc _).alloc _).alloc _, ?_, ?_, ((((Below.refl _ w).alloc (Nat.le_refl _) _).alloc (by simp) _).alloc (by simp; omega) _).alloc (by simp; omega) _⟩, ?_⟩
  · have := ((NinAt.new (w.alloc (.cells #[.slice A X.ts.length c, .int .i64 (X.n : Int)] 41)) (.string ⟨#[]⟩) (.slice none 0 0) (.int .i64 0) (.string ⟨#[]⟩) (.int .i64 0) (.bool false) (.slice none 0 0) (.slice none 0 0) (.slice none 0 0)).alloc (.cells #[.int .i64 0, .int .i64 0] 25)).alloc (.cells z9 49)
    simpa using this
  · have := (TwoAt.new 25 ((w.alloc (.cells #[.slice A X.ts.length c, .int .i64 (X.n : Int)] 41)).alloc (.cells z9 49)) (.int .i64 0) (.int .i64 0)).alloc (.cells z9 49)
    simpa using this
  · have := NinAt.new (((w.alloc (.cells #[.slice A X.ts.length c, .int .i64 (X.n : Int)] 41)).alloc (.cells z9 49)).alloc (.cells #[.int .i64 0, .int .i64 0] 25)) (.string ⟨#[]⟩) (.slice none 0 0) (.int .i64 0) (.string ⟨#[]⟩) (.int .i64 0) (.bool false) (.slice none 0 0) (.slice none 0 0) (.slice none 0 0)
    simpa using this
/-- What holds when the function and the fault that are answered have been stored. -/
structure FinN (w W W2 : World) (N Dt Df : Nat) (c0 c1 c2 c3 c4 c5 c6 c7 c8 x y : Value) : Prop where
  b : Below w.heap.size w W2
  k : Keep (V.far (w.heap.size + N)) W W2
  u0 : W2.cell? ⟨Dt, 0, none⟩ = some c0
  u1 : W2.cell? ⟨Dt, 1, none⟩ = some c1
  u2 : W2.cell? ⟨Dt, 2, none⟩ = some c2
  u3 : W2.cell? ⟨Dt, 3, none⟩ = some c3
  u4 : W2.cell? ⟨Dt, 4, none⟩ = some c4
  u5 : W2.cell? ⟨Dt, 5, none⟩ = some c5
  u6 : W2.cell? ⟨Dt, 6, none⟩ = some c6
  u7 : W2.cell? ⟨Dt, 7, none⟩ = some c7
  u8 : W2.cell? ⟨Dt, 8, none⟩ = some c8
  v0 : W2.cell? ⟨Df, 0, none⟩ = some x
  v1 : W2.cell? ⟨Df, 1, none⟩ = some y
theorem FinN.drew {w W W2 : World} {N Dt Df : Nat} {c0 c1 c2 c3 c4 c5 c6 c7 c8 x y : Value} (h : FinN w W W2 N Dt Df c0 c1 c2 c3 c4 c5 c6 c7 c8 x y) : FinN w W W2.drew N Dt Df c0 c1 c2 c3 c4 c5 c6 c7 c8 x y :=
  ⟨h.b.drew, h.k.trans (keep_drew _ _), h.u0, h.u1, h.u2, h.u3, h.u4, h.u5, h.u6, h.u7, h.u8, h.v0, h.v1⟩
theorem Bn.fin {X : Tks} {A : Option Addr} {c b Dt Df : Nat} {w W : World} (N : Nat) (h : Bn X A c b Dt Df w W) (c0 c1 c2 c3 c4 c5 c6 c7 c8 x y : Value) (h1 : w.heap.size ≤ Dt) (h2 : w.heap.size ≤ Df) (h3 : Dt < w.heap.size + N) (h4 : Df < w.heap.size + N) (h5 : Dt ≠ Df) :
    ∃ W2, W2 = (((((((((((W.setCell ⟨Dt, 0, none⟩ c0).setCell ⟨Dt, 1, none⟩ c1).setCell ⟨Dt, 2, none⟩ c2).setCell ⟨Dt, 3, none⟩ c3).setCell ⟨Dt, 4, none⟩ c4).setCell ⟨Dt, 5, none⟩ c5).setCell ⟨Dt, 6, none⟩ c6).setCell ⟨Dt, 7, none⟩ c7).setCell ⟨Dt, 8, none⟩ c8).setCell ⟨Df, 0, none⟩ x).setCell ⟨Df, 1, none⟩ y) ∧ FinN w W W2 N Dt Df c0 c1 c2 c3 c4 c5 c6 c7 c8 x y := by
  refine ⟨_, rfl, ?_⟩
  have HO1 := NinAt.out W Dt c0 c1 c2 c3 c4 c5 c6 c7 c8
  have HJ1 := h.z.put c0 c1 c2 c3 c4 c5 c6 c7 c8
  have HJ2 := h.d.grown HO1 (by simp; omega)
  have HO2 := TwoAt.out (w := (((((((((W.setCell ⟨Dt, 0, none⟩ c0).setCell ⟨Dt, 1, none⟩ c1).setCell ⟨Dt, 2, none⟩ c2).setCell ⟨Dt, 3, none⟩ c3).setCell ⟨Dt, 4, none⟩ c4).setCell ⟨Dt, 5, none⟩ c5).setCell ⟨Dt, 6, none⟩ c6).setCell ⟨Dt, 7, none⟩ c7).setCell ⟨Dt, 8, none⟩ c8)) (b := Df) x y
  have HJ3 := HJ1.grown HO2 (by simp; omega)
  have HJ4 := HJ2.put x y
  have HBF := below_grown (below_grown h.bw HO1 (fun g e => by cases e; omega)) HO2 (fun g e => by cases e; omega)
  have HKF := (far_keep (n := w.heap.size + N) HO1 (by omega)).trans (far_keep HO2 (by omega))
  obtain ⟨u0, u1, u2, u3, u4, u5, u6, u7, u8⟩ := HJ3.cells
  obtain ⟨⟨v0, v1⟩, _, _⟩ := HJ4.cells
  exact ⟨HBF, HKF, u0, u1, u2, u3, u4, u5, u6, u7, u8, v0, v1⟩
def isFn (v : Value) : Prop := ∃ (nm : ByteArray) (A : Option Addr) (n m : Nat) (k : Int) (tn : ByteArray) (nu : Int) (sh : Bool) (A1 : Option Addr) (n1 m1 : Nat) (A2 : Option Addr) (n2 m2 : Nat) (A3 : Option Addr) (n3 m3 : Nat), v = .agg #[.string nm, .slice A n m, .int .i64 k, .string tn, .int .i64 nu, .bool sh, .slice A1 n1 m1, .slice A2 n2 m2, .slice A3 n3 m3]
theorem RefP.anyG {r : Res (List (ByteArray × List (ByteArray × Int)))} {W w1 : World} {e : Ending} (h : RefP isSl (repGs W) r W e w1) : Below W.heap.size W w1 ∧ ∃ (A : Option Addr) (n m : Nat) (E : Int) (K : Nat) (J : Int),
    e = .returned (.tuple #[.slice A n m, .int .i64 J, .agg #[.int .i64 E, .int .i64 (K : Int)]]) ∧ ((∃ l j, r = .ok l j ∧ J = ((j : Nat) : Int) ∧ E = 0 ∧ K = 0 ∧ n = l.length ∧ SliceV GivenV w1 (from_ W) l (.slice A n m)) ∨ (r = .bad E K ∧ E ≠ 0)) := by
  obtain ⟨h1, h2⟩ := h
  refine ⟨h1, ?_⟩
  cases r with
  | bad T k =>
    obtain ⟨h3, v, J, rfl, A, n, m, rfl⟩ := h2
    exact ⟨A, n, m, T, k, J, rfl, .inr ⟨rfl, h3⟩⟩
  | ok l j =>
    obtain ⟨v, rfl, h3⟩ := h2
    have h4 : SliceV GivenV w1 (from_ W) l v := h3
    obtain ⟨A, m, rfl⟩ := h4.form
    exact ⟨A, _, m, 0, 0, j, rfl, .inl ⟨l, j, rfl, rfl, rfl, rfl, rfl, h4⟩⟩

set_option maxRecDepth 100000 in
set_option maxHeartbeats 8000000 in
theorem rFunc {X : Tks} {A : Option Addr} {c : Nat} {w : World} (ok : X.Ok) (h : LsAt X A c w) (i : Nat) (hi : i ≤ X.ts.length)
    (hE : ∀ (W : World) (j : Nat), LsAt X A c W → j ≤ X.ts.length → Calls Tryz.prog 28 #[lsV X A c, .int .i64 (j : Int), .int .i64 1] W (RefP isTr (repT W) (exprS X 64 j) W)) :
    Calls Tryz.prog 12 #[lsV X A c, .int .i64 (i : Int)] w (RefP isFn (repF w) (funcS X i) w) := by
  obtain ⟨hX0, hT0⟩ := func_new h
  have HX0 := hide hX0
  have HT0 := hide hT0
  have HOK := hide ok
  have HE := hide hE
  have HSM : Hid (∀ j, (X.tx j).size ≤ 65536) := ok.small
  have hxl := h.len
  unfold lsV at *
  obtain ⟨⟨q0, q1⟩, fq0, fq1⟩ := HX0.out.t.cells
  obtain ⟨⟨d0, d1⟩, fd0, fd1⟩ := HX0.out.d.cells
  obtain ⟨z0, z1, z2, z3, z4, z5, z6, z7', z8⟩ := HX0.out.z.cells
  have hzf := HX0.out.z.frozen
  have y0 := hzf 0
  have y1 := hzf 1
  have y2 := hzf 2
  have y3 := hzf 3
  have y4 := hzf 4
  have y5 := hzf 5
  have y6 := hzf 6
  have y7 := hzf 7
  have y8 := hzf 8
  clear hzf
  obtain ⟨a0, a1, a2, a3, a4, a5, a6, a7, a8⟩ := HT0.out.cells
  have htf := HT0.out.frozen
  have b0 := htf 0
  have b1 := htf 1
  have b2 := htf 2
  have b3 := htf 3
  have b4 := htf 4
  have b5 := htf 5
  have b6 := htf 6
  have b7 := htf 7
  have b8 := htf 8
  clear htf
  clear h ok hE hX0 hT0
  obtain ⟨r0, hr0⟩ : ∃ r0, r0 = funcS X i := ⟨_, rfl⟩
  rw [← hr0]
  have HR0 := hide hr0
  clear hr0
  cases h1 : ((X.tx i).toList == [102, 110]) with
  | false =>
    have HSL : Hid (r0 = .bad 7 (X.ps i)) := by
      rw [Hid, HR0.out]
      unfold funcS mustS
      rw [if_neg (by rw [h1]; simp)]
      rfl
    go_enter Tryz.func12, Tryz.ntmps12
    go_wp2_with (first
      | (go_at_call 24; refine (rText HX0.out.l (i)).mono ?_; rintro e w1 ⟨rfl, hb⟩; have HX1 := hide (HX0.out.below hb); have HT1 := hide (HT0.out.below hb); clear HX0 HT0; clear q0 q1 fq0 fq1 d0 d1 fd0 fd1 z0 z1 z2 z3 z4 z5 z6 z7' z8 y0 y1 y2 y3 y4 y5 y6 y7 y8 a0 a1 a2 a3 a4 a5 a6 a7 a8 b0 b1 b2 b3 b4 b5 b6 b7 b8; obtain ⟨⟨q0, q1⟩, fq0, fq1⟩ := HX1.out.t.cells; obtain ⟨⟨d0, d1⟩, fd0, fd1⟩ := HX1.out.d.cells; obtain ⟨z0, z1, z2, z3, z4, z5, z6, z7', z8⟩ := HX1.out.z.cells; have hzf := HX1.out.z.frozen; have y0 := hzf 0; have y1 := hzf 1; have y2 := hzf 2; have y3 := hzf 3; have y4 := hzf 4; have y5 := hzf 5; have y6 := hzf 6; have y7 := hzf 7; have y8 := hzf 8; clear hzf; obtain ⟨a0, a1, a2, a3, a4, a5, a6, a7, a8⟩ := HT1.out.cells; have htf := HT1.out.frozen; have b0 := htf 0; have b1 := htf 1; have b2 := htf 2; have b3 := htf 3; have b4 := htf 4; have b5 := htf 5; have b6 := htf 6; have b7 := htf 7; have b8 := htf 8; clear htf; clear hb)
      )
    obtain ⟨p, hp⟩ : ∃ p, p = X.ps (i) := ⟨_, rfl⟩
    have HBA := hide (rBad (X := X) (A := A) (c := c) (w := w1.drew) HX1.out.drew.l (i))
    rw [← hp] at HBA
    have HPP := hide hp
    clear hp
    go_region_with (go_at_call 25; refine HBA.out.mono ?_; rintro e w2 ⟨rfl, hb⟩; have HX2 := hide (HX1.out.drew.below hb); have HT2 := hide (HT1.out.drew.below hb); clear q0 q1 fq0 fq1 d0 d1 fd0 fd1 z0 z1 z2 z3 z4 z5 z6 z7' z8 y0 y1 y2 y3 y4 y5 y6 y7 y8 a0 a1 a2 a3 a4 a5 a6 a7 a8 b0 b1 b2 b3 b4 b5 b6 b7 b8; obtain ⟨⟨q0, q1⟩, fq0, fq1⟩ := HX2.out.t.cells; obtain ⟨⟨d0, d1⟩, fd0, fd1⟩ := HX2.out.d.cells; obtain ⟨z0, z1, z2, z3, z4, z5, z6, z7', z8⟩ := HX2.out.z.cells; have hzf := HX2.out.z.frozen; have y0 := hzf 0; have y1 := hzf 1; have y2 := hzf 2; have y3 := hzf 3; have y4 := hzf 4; have y5 := hzf 5; have y6 := hzf 6; have y7 := hzf 7; have y8 := hzf 8; clear hzf; obtain ⟨a0, a1, a2, a3, a4, a5, a6, a7, a8⟩ := HT2.out.cells; have htf := HT2.out.frozen; have b0 := htf 0; have b1 := htf 1; have b2 := htf 2; have b3 := htf 3; have b4 := htf 4; have b5 := htf 5; have b6 := htf 6; have b7 := htf 7; have b8 := htf 8; clear htf; clear hb)
    all_goals
      obtain ⟨wg, hwg, hfin⟩ := HX2.out.fin 4 (.string ⟨#[]⟩) (.slice none 0 0) (.int .i64 0) (.string ⟨#[]⟩) (.int .i64 0) (.bool false) (.slice none 0 0) (.slice none 0 0) (.slice none 0 0) (.int .i64 7) (.int .i64 (p : Int)) (by omega) (by omega) (by omega) (by omega) (by omega)
      rw [← hwg]
      clear hwg
      obtain ⟨hbf, hkf, u0, u1, u2, u3, u4, u5, u6, u7, u8, v0, v1⟩ := hfin
      have HBF := hide hbf
      have HKF := hide hkf
      clear hbf hkf
      go_wp2
      refine bodyPost_ret (v := .tuple #[.agg #[.string ⟨#[]⟩, .slice none 0 0, .int .i64 0, .string ⟨#[]⟩, .int .i64 0, .bool false, .slice none 0 0, .slice none 0 0, .slice none 0 0], .int .i64 ((i : Int)), .agg #[.int .i64 7, .int .i64 (p : Int)]]) (by simp [results, Tryz.results12, go_sem, u0, u1, u2, u3, u4, u5, u6, u7, u8, v0, v1]) rfl ?_
      rw [HSL.out, ← HPP.out]
      exact ⟨HBF.out, by decide, _, (i : Int), rfl, _, _, _, _, _, _, _, _, _, _, _, _, _, _, _, _, _, rfl⟩
  | true =>
    have hil := Tks.lt_of h1 (by simp)
    cases h2 : isNameB (X.tx (i + 1)) with
    | false =>
      have HSL : Hid (r0 = .bad 7 (X.ps (i + 1))) := by
        rw [Hid, HR0.out]
        unfold funcS mustS nameS
        rw [if_pos h1, Res.bind_ok, if_neg (by rw [h2]; simp)]
        rfl
      go_enter Tryz.func12, Tryz.ntmps12
      go_wp2_with (first
        | (go_at_call 24; refine (rText HX0.out.l (i)).mono ?_; rintro e w1 ⟨rfl, hb⟩; have HX1 := hide (HX0.out.below hb); have HT1 := hide (HT0.out.below hb); clear HX0 HT0; clear q0 q1 fq0 fq1 d0 d1 fd0 fd1 z0 z1 z2 z3 z4 z5 z6 z7' z8 y0 y1 y2 y3 y4 y5 y6 y7 y8 a0 a1 a2 a3 a4 a5 a6 a7 a8 b0 b1 b2 b3 b4 b5 b6 b7 b8; obtain ⟨⟨q0, q1⟩, fq0, fq1⟩ := HX1.out.t.cells; obtain ⟨⟨d0, d1⟩, fd0, fd1⟩ := HX1.out.d.cells; obtain ⟨z0, z1, z2, z3, z4, z5, z6, z7', z8⟩ := HX1.out.z.cells; have hzf := HX1.out.z.frozen; have y0 := hzf 0; have y1 := hzf 1; have y2 := hzf 2; have y3 := hzf 3; have y4 := hzf 4; have y5 := hzf 5; have y6 := hzf 6; have y7 := hzf 7; have y8 := hzf 8; clear hzf; obtain ⟨a0, a1, a2, a3, a4, a5, a6, a7, a8⟩ := HT1.out.cells; have htf := HT1.out.frozen; have b0 := htf 0; have b1 := htf 1; have b2 := htf 2; have b3 := htf 3; have b4 := htf 4; have b5 := htf 5; have b6 := htf 6; have b7 := htf 7; have b8 := htf 8; clear htf; clear hb)
        | (go_at_call 24; refine (rText HX1.out.l (i + 1)).mono ?_; rintro e w2 ⟨rfl, hb⟩; have HX2 := hide (HX1.out.below hb); have HT2 := hide (HT1.out.below hb); clear HX1 HT1; clear q0 q1 fq0 fq1 d0 d1 fd0 fd1 z0 z1 z2 z3 z4 z5 z6 z7' z8 y0 y1 y2 y3 y4 y5 y6 y7 y8 a0 a1 a2 a3 a4 a5 a6 a7 a8 b0 b1 b2 b3 b4 b5 b6 b7 b8; obtain ⟨⟨q0, q1⟩, fq0, fq1⟩ := HX2.out.t.cells; obtain ⟨⟨d0, d1⟩, fd0, fd1⟩ := HX2.out.d.cells; obtain ⟨z0, z1, z2, z3, z4, z5, z6, z7', z8⟩ := HX2.out.z.cells; have hzf := HX2.out.z.frozen; have y0 := hzf 0; have y1 := hzf 1; have y2 := hzf 2; have y3 := hzf 3; have y4 := hzf 4; have y5 := hzf 5; have y6 := hzf 6; have y7 := hzf 7; have y8 := hzf 8; clear hzf; obtain ⟨a0, a1, a2, a3, a4, a5, a6, a7, a8⟩ := HT2.out.cells; have htf := HT2.out.frozen; have b0 := htf 0; have b1 := htf 1; have b2 := htf 2; have b3 := htf 3; have b4 := htf 4; have b5 := htf 5; have b6 := htf 6; have b7 := htf 7; have b8 := htf 8; clear htf; clear hb)
        | (go_at_call 26; refine (rIsName (X.tx (i + 1)) _ (HSM.out _)).mono ?_; rw [h2]; rintro e w' ⟨rfl, hw'⟩; obtain rfl := hw'.symm; clear hw')
        )
      obtain ⟨p, hp⟩ : ∃ p, p = X.ps (i + 1) := ⟨_, rfl⟩
      have HBA := hide (rBad (X := X) (A := A) (c := c) (w := w2.drew) HX2.out.drew.l (i + 1))
      rw [← hp] at HBA
      have HPP := hide hp
      clear hp
      rw [show ((i + 1 : Nat) : Int) = IntKind.i64.wrap ((i : Int) + 1) from by rw [wrap_in _ (by omega) (by omega)]; omega] at HBA
      go_region_with (go_at_call 25; refine HBA.out.mono ?_; rintro e w3 ⟨rfl, hb⟩; have HX3 := hide (HX2.out.drew.below hb); have HT3 := hide (HT2.out.drew.below hb); clear q0 q1 fq0 fq1 d0 d1 fd0 fd1 z0 z1 z2 z3 z4 z5 z6 z7' z8 y0 y1 y2 y3 y4 y5 y6 y7 y8 a0 a1 a2 a3 a4 a5 a6 a7 a8 b0 b1 b2 b3 b4 b5 b6 b7 b8; obtain ⟨⟨q0, q1⟩, fq0, fq1⟩ := HX3.out.t.cells; obtain ⟨⟨d0, d1⟩, fd0, fd1⟩ := HX3.out.d.cells; obtain ⟨z0, z1, z2, z3, z4, z5, z6, z7', z8⟩ := HX3.out.z.cells; have hzf := HX3.out.z.frozen; have y0 := hzf 0; have y1 := hzf 1; have y2 := hzf 2; have y3 := hzf 3; have y4 := hzf 4; have y5 := hzf 5; have y6 := hzf 6; have y7 := hzf 7; have y8 := hzf 8; clear hzf; obtain ⟨a0, a1, a2, a3, a4, a5, a6, a7, a8⟩ := HT3.out.cells; have htf := HT3.out.frozen; have b0 := htf 0; have b1 := htf 1; have b2 := htf 2; have b3 := htf 3; have b4 := htf 4; have b5 := htf 5; have b6 := htf 6; have b7 := htf 7; have b8 := htf 8; clear htf; clear hb)
      all_goals
        obtain ⟨wg, hwg, hfin⟩ := HX3.out.fin 4 (.string ⟨#[]⟩) (.slice none 0 0) (.int .i64 0) (.string ⟨#[]⟩) (.int .i64 0) (.bool false) (.slice none 0 0) (.slice none 0 0) (.slice none 0 0) (.int .i64 7) (.int .i64 (p : Int)) (by omega) (by omega) (by omega) (by omega) (by omega)
        rw [← hwg]
        clear hwg
        obtain ⟨hbf, hkf, u0, u1, u2, u3, u4, u5, u6, u7, u8, v0, v1⟩ := hfin
        have HBF := hide hbf
        have HKF := hide hkf
        clear hbf hkf
        go_wp2
        refine bodyPost_ret (v := .tuple #[.agg #[.string ⟨#[]⟩, .slice none 0 0, .int .i64 0, .string ⟨#[]⟩, .int .i64 0, .bool false, .slice none 0 0, .slice none 0 0, .slice none 0 0], .int .i64 ((i : Int)), .agg #[.int .i64 7, .int .i64 (p : Int)]]) (by simp [results, Tryz.results12, go_sem, u0, u1, u2, u3, u4, u5, u6, u7, u8, v0, v1]) rfl ?_
        rw [HSL.out, ← HPP.out]
        exact ⟨HBF.out, by decide, _, (i : Int), rfl, _, _, _, _, _, _, _, _, _, _, _, _, _, _, _, _, _, rfl⟩
    | true =>
      have hil1 := isNameB_lt h2
      cases h3 : ((X.tx (i + 2)).toList == [40]) with
      | false =>
        have HSL : Hid (r0 = .bad 7 (X.ps (i + 2))) := by
          rw [Hid, HR0.out]
          unfold funcS mustS nameS brackS mustS
          rw [if_pos h1, Res.bind_ok, if_pos h2, Res.bind_ok, if_neg (by rw [h3]; simp)]
          rfl
        go_enter Tryz.func12, Tryz.ntmps12
        go_upto_region 7 with (first
          | (go_at_call 24; refine (rText HX0.out.l (i)).mono ?_; rintro e w1 ⟨rfl, hb⟩; have HX1 := hide (HX0.out.below hb); have HT1 := hide (HT0.out.below hb); clear HX0 HT0; clear q0 q1 fq0 fq1 d0 d1 fd0 fd1 z0 z1 z2 z3 z4 z5 z6 z7' z8 y0 y1 y2 y3 y4 y5 y6 y7 y8 a0 a1 a2 a3 a4 a5 a6 a7 a8 b0 b1 b2 b3 b4 b5 b6 b7 b8; obtain ⟨⟨q0, q1⟩, fq0, fq1⟩ := HX1.out.t.cells; obtain ⟨⟨d0, d1⟩, fd0, fd1⟩ := HX1.out.d.cells; obtain ⟨z0, z1, z2, z3, z4, z5, z6, z7', z8⟩ := HX1.out.z.cells; have hzf := HX1.out.z.frozen; have y0 := hzf 0; have y1 := hzf 1; have y2 := hzf 2; have y3 := hzf 3; have y4 := hzf 4; have y5 := hzf 5; have y6 := hzf 6; have y7 := hzf 7; have y8 := hzf 8; clear hzf; obtain ⟨a0, a1, a2, a3, a4, a5, a6, a7, a8⟩ := HT1.out.cells; have htf := HT1.out.frozen; have b0 := htf 0; have b1 := htf 1; have b2 := htf 2; have b3 := htf 3; have b4 := htf 4; have b5 := htf 5; have b6 := htf 6; have b7 := htf 7; have b8 := htf 8; clear htf; clear hb)
          | (go_at_call 24; refine (rText HX1.out.l (i + 1)).mono ?_; rintro e w2 ⟨rfl, hb⟩; have HX2 := hide (HX1.out.below hb); have HT2 := hide (HT1.out.below hb); clear HX1 HT1; clear q0 q1 fq0 fq1 d0 d1 fd0 fd1 z0 z1 z2 z3 z4 z5 z6 z7' z8 y0 y1 y2 y3 y4 y5 y6 y7 y8 a0 a1 a2 a3 a4 a5 a6 a7 a8 b0 b1 b2 b3 b4 b5 b6 b7 b8; obtain ⟨⟨q0, q1⟩, fq0, fq1⟩ := HX2.out.t.cells; obtain ⟨⟨d0, d1⟩, fd0, fd1⟩ := HX2.out.d.cells; obtain ⟨z0, z1, z2, z3, z4, z5, z6, z7', z8⟩ := HX2.out.z.cells; have hzf := HX2.out.z.frozen; have y0 := hzf 0; have y1 := hzf 1; have y2 := hzf 2; have y3 := hzf 3; have y4 := hzf 4; have y5 := hzf 5; have y6 := hzf 6; have y7 := hzf 7; have y8 := hzf 8; clear hzf; obtain ⟨a0, a1, a2, a3, a4, a5, a6, a7, a8⟩ := HT2.out.cells; have htf := HT2.out.frozen; have b0 := htf 0; have b1 := htf 1; have b2 := htf 2; have b3 := htf 3; have b4 := htf 4; have b5 := htf 5; have b6 := htf 6; have b7 := htf 7; have b8 := htf 8; clear htf; clear hb)
          | (go_at_call 26; refine (rIsName (X.tx (i + 1)) _ (HSM.out _)).mono ?_; rw [h2]; rintro e w' ⟨rfl, hw'⟩; obtain rfl := hw'.symm; clear hw')
          | (go_at_call 24; refine (rText HX2.out.l (i + 1)).mono ?_; rintro e w3 ⟨rfl, hb⟩; have HX3 := hide (HX2.out.below hb); have HT3 := hide (HT2.out.below hb); clear HX2 HT2; clear q0 q1 fq0 fq1 d0 d1 fd0 fd1 z0 z1 z2 z3 z4 z5 z6 z7' z8 y0 y1 y2 y3 y4 y5 y6 y7 y8 a0 a1 a2 a3 a4 a5 a6 a7 a8 b0 b1 b2 b3 b4 b5 b6 b7 b8; obtain ⟨⟨q0, q1⟩, fq0, fq1⟩ := HX3.out.t.cells; obtain ⟨⟨d0, d1⟩, fd0, fd1⟩ := HX3.out.d.cells; obtain ⟨z0, z1, z2, z3, z4, z5, z6, z7', z8⟩ := HX3.out.z.cells; have hzf := HX3.out.z.frozen; have y0 := hzf 0; have y1 := hzf 1; have y2 := hzf 2; have y3 := hzf 3; have y4 := hzf 4; have y5 := hzf 5; have y6 := hzf 6; have y7 := hzf 7; have y8 := hzf 8; clear hzf; obtain ⟨a0, a1, a2, a3, a4, a5, a6, a7, a8⟩ := HT3.out.cells; have htf := HT3.out.frozen; have b0 := htf 0; have b1 := htf 1; have b2 := htf 2; have b3 := htf 3; have b4 := htf 4; have b5 := htf 5; have b6 := htf 6; have b7 := htf 7; have b8 := htf 8; clear htf; clear hb)
          )
        have hoT := set_out w3 (w.heap.size + 3) 0 (.string (X.tx (i + 1)))
        have HX4 := hide (HX3.out.grown hoT (by simp <;> omega) (by simp <;> omega) (by simp <;> omega) (fun g e => by cases e; omega))
        have HT4 := hide (HT3.out.set0 (.string (X.tx (i + 1))))
        obtain ⟨w4, hw4⟩ : ∃ w4, w4 = (w3.setCell ⟨w.heap.size + 3, 0, none⟩ (.string (X.tx (i + 1)))) := ⟨_, rfl⟩
        rw [← hw4] at HX4 HT4 ⊢
        clear hw4 hoT HX3 HT3
        clear q0 q1 fq0 fq1 d0 d1 fd0 fd1 z0 z1 z2 z3 z4 z5 z6 z7' z8 y0 y1 y2 y3 y4 y5 y6 y7 y8 a0 a1 a2 a3 a4 a5 a6 a7 a8 b0 b1 b2 b3 b4 b5 b6 b7 b8
        obtain ⟨⟨q0, q1⟩, fq0, fq1⟩ := HX4.out.t.cells
        obtain ⟨⟨d0, d1⟩, fd0, fd1⟩ := HX4.out.d.cells
        obtain ⟨z0, z1, z2, z3, z4, z5, z6, z7', z8⟩ := HX4.out.z.cells
        have hzf := HX4.out.z.frozen
        have y0 := hzf 0
        have y1 := hzf 1
        have y2 := hzf 2
        have y3 := hzf 3
        have y4 := hzf 4
        have y5 := hzf 5
        have y6 := hzf 6
        have y7 := hzf 7
        have y8 := hzf 8
        clear hzf
        obtain ⟨a0, a1, a2, a3, a4, a5, a6, a7, a8⟩ := HT4.out.cells
        have htf := HT4.out.frozen
        have b0 := htf 0
        have b1 := htf 1
        have b2 := htf 2
        have b3 := htf 3
        have b4 := htf 4
        have b5 := htf 5
        have b6 := htf 6
        have b7 := htf 7
        have b8 := htf 8
        clear htf
        go_wp2_with (first
          | (go_at_call 24; refine (rText HX4.out.l (i + 2)).mono ?_; rintro e w5 ⟨rfl, hb⟩; have HX5 := hide (HX4.out.below hb); have HT5 := hide (HT4.out.below hb); clear HX4 HT4; clear q0 q1 fq0 fq1 d0 d1 fd0 fd1 z0 z1 z2 z3 z4 z5 z6 z7' z8 y0 y1 y2 y3 y4 y5 y6 y7 y8 a0 a1 a2 a3 a4 a5 a6 a7 a8 b0 b1 b2 b3 b4 b5 b6 b7 b8; obtain ⟨⟨q0, q1⟩, fq0, fq1⟩ := HX5.out.t.cells; obtain ⟨⟨d0, d1⟩, fd0, fd1⟩ := HX5.out.d.cells; obtain ⟨z0, z1, z2, z3, z4, z5, z6, z7', z8⟩ := HX5.out.z.cells; have hzf := HX5.out.z.frozen; have y0 := hzf 0; have y1 := hzf 1; have y2 := hzf 2; have y3 := hzf 3; have y4 := hzf 4; have y5 := hzf 5; have y6 := hzf 6; have y7 := hzf 7; have y8 := hzf 8; clear hzf; obtain ⟨a0, a1, a2, a3, a4, a5, a6, a7, a8⟩ := HT5.out.cells; have htf := HT5.out.frozen; have b0 := htf 0; have b1 := htf 1; have b2 := htf 2; have b3 := htf 3; have b4 := htf 4; have b5 := htf 5; have b6 := htf 6; have b7 := htf 7; have b8 := htf 8; clear htf; clear hb)
          )
        obtain ⟨p, hp⟩ : ∃ p, p = X.ps (i + 2) := ⟨_, rfl⟩
        have HBA := hide (rBad (X := X) (A := A) (c := c) (w := w5.drew) HX5.out.drew.l (i + 2))
        rw [← hp] at HBA
        have HPP := hide hp
        clear hp
        rw [show ((i + 2 : Nat) : Int) = IntKind.i64.wrap ((i : Int) + 2) from by rw [wrap_in _ (by omega) (by omega)]; omega] at HBA
        go_region_with (go_at_call 25; refine HBA.out.mono ?_; rintro e w6 ⟨rfl, hb⟩; have HX6 := hide (HX5.out.drew.below hb); have HT6 := hide (HT5.out.drew.below hb); clear q0 q1 fq0 fq1 d0 d1 fd0 fd1 z0 z1 z2 z3 z4 z5 z6 z7' z8 y0 y1 y2 y3 y4 y5 y6 y7 y8 a0 a1 a2 a3 a4 a5 a6 a7 a8 b0 b1 b2 b3 b4 b5 b6 b7 b8; obtain ⟨⟨q0, q1⟩, fq0, fq1⟩ := HX6.out.t.cells; obtain ⟨⟨d0, d1⟩, fd0, fd1⟩ := HX6.out.d.cells; obtain ⟨z0, z1, z2, z3, z4, z5, z6, z7', z8⟩ := HX6.out.z.cells; have hzf := HX6.out.z.frozen; have y0 := hzf 0; have y1 := hzf 1; have y2 := hzf 2; have y3 := hzf 3; have y4 := hzf 4; have y5 := hzf 5; have y6 := hzf 6; have y7 := hzf 7; have y8 := hzf 8; clear hzf; obtain ⟨a0, a1, a2, a3, a4, a5, a6, a7, a8⟩ := HT6.out.cells; have htf := HT6.out.frozen; have b0 := htf 0; have b1 := htf 1; have b2 := htf 2; have b3 := htf 3; have b4 := htf 4; have b5 := htf 5; have b6 := htf 6; have b7 := htf 7; have b8 := htf 8; clear htf; clear hb)
        all_goals
          obtain ⟨wg, hwg, hfin⟩ := HX6.out.fin 4 (.string (X.tx (i + 1))) (.slice none 0 0) (.int .i64 0) (.string ⟨#[]⟩) (.int .i64 0) (.bool false) (.slice none 0 0) (.slice none 0 0) (.slice none 0 0) (.int .i64 7) (.int .i64 (p : Int)) (by omega) (by omega) (by omega) (by omega) (by omega)
          rw [← hwg]
          clear hwg
          obtain ⟨hbf, hkf, u0, u1, u2, u3, u4, u5, u6, u7, u8, v0, v1⟩ := hfin
          have HBF := hide hbf
          have HKF := hide hkf
          clear hbf hkf
          go_wp2
          refine bodyPost_ret (v := .tuple #[.agg #[.string (X.tx (i + 1)), .slice none 0 0, .int .i64 0, .string ⟨#[]⟩, .int .i64 0, .bool false, .slice none 0 0, .slice none 0 0, .slice none 0 0], .int .i64 ((i : Int)), .agg #[.int .i64 7, .int .i64 (p : Int)]]) (by simp [results, Tryz.results12, go_sem, u0, u1, u2, u3, u4, u5, u6, u7, u8, v0, v1]) rfl ?_
          rw [HSL.out, ← HPP.out]
          exact ⟨HBF.out, by decide, _, (i : Int), rfl, _, _, _, _, _, _, _, _, _, _, _, _, _, _, _, _, _, rfl⟩
      | true =>
        have hil2 := Tks.lt_of h3 (by simp)
        have HRR : Hid (r0 = (rowS X (givenS X) 0 (i + 3) []).bind fun gs i' => (mustS X (tC 61) i').bind fun _ i' => (exprS X 64 i').bind fun b i' => (mustS X (tC 59) i').bind fun _ i' => .ok ⟨X.tx (i + 1), gs, b⟩ i') := by
          rw [Hid, HR0.out]
          unfold funcS
          rw [show mustS X tFn i = .ok () (i + 1) from if_pos h1, Res.bind_ok, show nameS X (i + 1) = .ok (X.tx (i + 1)) (i + 1 + 1) from if_pos h2, Res.bind_ok]
          unfold brackS
          rw [show mustS X (tC 40) (i + 1 + 1) = .ok () (i + 1 + 1 + 1) from if_pos h3, Res.bind_ok]
          rfl
        cases h4 : rowS X (givenS X) 0 (i + 3) [] with
        | bad Te ke =>
          go_enter Tryz.func12, Tryz.ntmps12
          go_upto_region 7 with (first
            | (go_at_call 24; refine (rText HX0.out.l (i)).mono ?_; rintro e w1 ⟨rfl, hb⟩; have HX1 := hide (HX0.out.below hb); have HT1 := hide (HT0.out.below hb); clear HX0 HT0; clear q0 q1 fq0 fq1 d0 d1 fd0 fd1 z0 z1 z2 z3 z4 z5 z6 z7' z8 y0 y1 y2 y3 y4 y5 y6 y7 y8 a0 a1 a2 a3 a4 a5 a6 a7 a8 b0 b1 b2 b3 b4 b5 b6 b7 b8; obtain ⟨⟨q0, q1⟩, fq0, fq1⟩ := HX1.out.t.cells; obtain ⟨⟨d0, d1⟩, fd0, fd1⟩ := HX1.out.d.cells; obtain ⟨z0, z1, z2, z3, z4, z5, z6, z7', z8⟩ := HX1.out.z.cells; have hzf := HX1.out.z.frozen; have y0 := hzf 0; have y1 := hzf 1; have y2 := hzf 2; have y3 := hzf 3; have y4 := hzf 4; have y5 := hzf 5; have y6 := hzf 6; have y7 := hzf 7; have y8 := hzf 8; clear hzf; obtain ⟨a0, a1, a2, a3, a4, a5, a6, a7, a8⟩ := HT1.out.cells; have htf := HT1.out.frozen; have b0 := htf 0; have b1 := htf 1; have b2 := htf 2; have b3 := htf 3; have b4 := htf 4; have b5 := htf 5; have b6 := htf 6; have b7 := htf 7; have b8 := htf 8; clear htf; clear hb)
            | (go_at_call 24; refine (rText HX1.out.l (i + 1)).mono ?_; rintro e w2 ⟨rfl, hb⟩; have HX2 := hide (HX1.out.below hb); have HT2 := hide (HT1.out.below hb); clear HX1 HT1; clear q0 q1 fq0 fq1 d0 d1 fd0 fd1 z0 z1 z2 z3 z4 z5 z6 z7' z8 y0 y1 y2 y3 y4 y5 y6 y7 y8 a0 a1 a2 a3 a4 a5 a6 a7 a8 b0 b1 b2 b3 b4 b5 b6 b7 b8; obtain ⟨⟨q0, q1⟩, fq0, fq1⟩ := HX2.out.t.cells; obtain ⟨⟨d0, d1⟩, fd0, fd1⟩ := HX2.out.d.cells; obtain ⟨z0, z1, z2, z3, z4, z5, z6, z7', z8⟩ := HX2.out.z.cells; have hzf := HX2.out.z.frozen; have y0 := hzf 0; have y1 := hzf 1; have y2 := hzf 2; have y3 := hzf 3; have y4 := hzf 4; have y5 := hzf 5; have y6 := hzf 6; have y7 := hzf 7; have y8 := hzf 8; clear hzf; obtain ⟨a0, a1, a2, a3, a4, a5, a6, a7, a8⟩ := HT2.out.cells; have htf := HT2.out.frozen; have b0 := htf 0; have b1 := htf 1; have b2 := htf 2; have b3 := htf 3; have b4 := htf 4; have b5 := htf 5; have b6 := htf 6; have b7 := htf 7; have b8 := htf 8; clear htf; clear hb)
            | (go_at_call 26; refine (rIsName (X.tx (i + 1)) _ (HSM.out _)).mono ?_; rw [h2]; rintro e w' ⟨rfl, hw'⟩; obtain rfl := hw'.symm; clear hw')
            | (go_at_call 24; refine (rText HX2.out.l (i + 1)).mono ?_; rintro e w3 ⟨rfl, hb⟩; have HX3 := hide (HX2.out.below hb); have HT3 := hide (HT2.out.below hb); clear HX2 HT2; clear q0 q1 fq0 fq1 d0 d1 fd0 fd1 z0 z1 z2 z3 z4 z5 z6 z7' z8 y0 y1 y2 y3 y4 y5 y6 y7 y8 a0 a1 a2 a3 a4 a5 a6 a7 a8 b0 b1 b2 b3 b4 b5 b6 b7 b8; obtain ⟨⟨q0, q1⟩, fq0, fq1⟩ := HX3.out.t.cells; obtain ⟨⟨d0, d1⟩, fd0, fd1⟩ := HX3.out.d.cells; obtain ⟨z0, z1, z2, z3, z4, z5, z6, z7', z8⟩ := HX3.out.z.cells; have hzf := HX3.out.z.frozen; have y0 := hzf 0; have y1 := hzf 1; have y2 := hzf 2; have y3 := hzf 3; have y4 := hzf 4; have y5 := hzf 5; have y6 := hzf 6; have y7 := hzf 7; have y8 := hzf 8; clear hzf; obtain ⟨a0, a1, a2, a3, a4, a5, a6, a7, a8⟩ := HT3.out.cells; have htf := HT3.out.frozen; have b0 := htf 0; have b1 := htf 1; have b2 := htf 2; have b3 := htf 3; have b4 := htf 4; have b5 := htf 5; have b6 := htf 6; have b7 := htf 7; have b8 := htf 8; clear htf; clear hb)
            )
          have hoT := set_out w3 (w.heap.size + 3) 0 (.string (X.tx (i + 1)))
          have HX4 := hide (HX3.out.grown hoT (by simp <;> omega) (by simp <;> omega) (by simp <;> omega) (fun g e => by cases e; omega))
          have HT4 := hide (HT3.out.set0 (.string (X.tx (i + 1))))
          obtain ⟨w4, hw4⟩ : ∃ w4, w4 = (w3.setCell ⟨w.heap.size + 3, 0, none⟩ (.string (X.tx (i + 1)))) := ⟨_, rfl⟩
          rw [← hw4] at HX4 HT4 ⊢
          clear hw4 hoT HX3 HT3
          clear q0 q1 fq0 fq1 d0 d1 fd0 fd1 z0 z1 z2 z3 z4 z5 z6 z7' z8 y0 y1 y2 y3 y4 y5 y6 y7 y8 a0 a1 a2 a3 a4 a5 a6 a7 a8 b0 b1 b2 b3 b4 b5 b6 b7 b8
          obtain ⟨⟨q0, q1⟩, fq0, fq1⟩ := HX4.out.t.cells
          obtain ⟨⟨d0, d1⟩, fd0, fd1⟩ := HX4.out.d.cells
          obtain ⟨z0, z1, z2, z3, z4, z5, z6, z7', z8⟩ := HX4.out.z.cells
          have hzf := HX4.out.z.frozen
          have y0 := hzf 0
          have y1 := hzf 1
          have y2 := hzf 2
          have y3 := hzf 3
          have y4 := hzf 4
          have y5 := hzf 5
          have y6 := hzf 6
          have y7 := hzf 7
          have y8 := hzf 8
          clear hzf
          obtain ⟨a0, a1, a2, a3, a4, a5, a6, a7, a8⟩ := HT4.out.cells
          have htf := HT4.out.frozen
          have b0 := htf 0
          have b1 := htf 1
          have b2 := htf 2
          have b3 := htf 3
          have b4 := htf 4
          have b5 := htf 5
          have b6 := htf 6
          have b7 := htf 7
          have b8 := htf 8
          clear htf
          go_upto_region 11 with (first
            | (go_at_call 24; refine (rText HX4.out.l (i + 2)).mono ?_; rintro e w5 ⟨rfl, hb⟩; have HX5 := hide (HX4.out.below hb); have HT5 := hide (HT4.out.below hb); clear HX4 HT4; clear q0 q1 fq0 fq1 d0 d1 fd0 fd1 z0 z1 z2 z3 z4 z5 z6 z7' z8 y0 y1 y2 y3 y4 y5 y6 y7 y8 a0 a1 a2 a3 a4 a5 a6 a7 a8 b0 b1 b2 b3 b4 b5 b6 b7 b8; obtain ⟨⟨q0, q1⟩, fq0, fq1⟩ := HX5.out.t.cells; obtain ⟨⟨d0, d1⟩, fd0, fd1⟩ := HX5.out.d.cells; obtain ⟨z0, z1, z2, z3, z4, z5, z6, z7', z8⟩ := HX5.out.z.cells; have hzf := HX5.out.z.frozen; have y0 := hzf 0; have y1 := hzf 1; have y2 := hzf 2; have y3 := hzf 3; have y4 := hzf 4; have y5 := hzf 5; have y6 := hzf 6; have y7 := hzf 7; have y8 := hzf 8; clear hzf; obtain ⟨a0, a1, a2, a3, a4, a5, a6, a7, a8⟩ := HT5.out.cells; have htf := HT5.out.frozen; have b0 := htf 0; have b1 := htf 1; have b2 := htf 2; have b3 := htf 3; have b4 := htf 4; have b5 := htf 5; have b6 := htf 6; have b7 := htf 7; have b8 := htf 8; clear htf; have hs5 := HX5.out.d.lt; have ht5 := HT5.out.lt; obtain ⟨⟨q2, q3⟩, _, _⟩ := (HX5.out.alloc (.cells #[.int .i64 0, .int .i64 0] 25)).t.cells; clear hb)
            | (go_at_call 27; refine (rGiven HOK.out (HX5.out.alloc (.cells #[.int .i64 0, .int .i64 0] 25)).l (i + 3) (by omega)).mono ?_; intro e w6 hr; obtain ⟨hb, Ag, ng, mg, Eg, Kg, Jg, rfl, hst⟩ := hr.anyG; have HST := hide hst; have HX6 := hide ((HX5.out.alloc (.cells #[.int .i64 0, .int .i64 0] 25)).below hb); have HT6 := hide ((HT5.out.alloc (.cells #[.int .i64 0, .int .i64 0] 25)).below hb); have HF6 : Hid (TwoAt 25 w6 w5.heap.size (.int .i64 0) (.int .i64 0)) := (TwoAt.new 25 w5 (.int .i64 0) (.int .i64 0)).below hb; have hs6 : w5.heap.size < w6.heap.size := (by have := hb.size; simp at this; omega); clear q2 q3 HX5 HT5; clear q0 q1 fq0 fq1 d0 d1 fd0 fd1 z0 z1 z2 z3 z4 z5 z6 z7' z8 y0 y1 y2 y3 y4 y5 y6 y7 y8 a0 a1 a2 a3 a4 a5 a6 a7 a8 b0 b1 b2 b3 b4 b5 b6 b7 b8; obtain ⟨⟨q0, q1⟩, fq0, fq1⟩ := HX6.out.t.cells; obtain ⟨⟨d0, d1⟩, fd0, fd1⟩ := HX6.out.d.cells; obtain ⟨z0, z1, z2, z3, z4, z5, z6, z7', z8⟩ := HX6.out.z.cells; have hzf := HX6.out.z.frozen; have y0 := hzf 0; have y1 := hzf 1; have y2 := hzf 2; have y3 := hzf 3; have y4 := hzf 4; have y5 := hzf 5; have y6 := hzf 6; have y7 := hzf 7; have y8 := hzf 8; clear hzf; obtain ⟨a0, a1, a2, a3, a4, a5, a6, a7, a8⟩ := HT6.out.cells; have htf := HT6.out.frozen; have b0 := htf 0; have b1 := htf 1; have b2 := htf 2; have b3 := htf 3; have b4 := htf 4; have b5 := htf 5; have b6 := htf 6; have b7 := htf 7; have b8 := htf 8; clear htf; obtain ⟨⟨g0, g1⟩, fg0, fg1⟩ := HF6.out.cells; clear hb hr hst)
            )
          have hoT := set_out w6 (w.heap.size + 3) 1 (.slice Ag ng mg)
          have hoF := TwoAt.out (w := (w6.setCell ⟨w.heap.size + 3, 1, none⟩ (.slice Ag ng mg))) (b := w5.heap.size) (.int .i64 Eg) (.int .i64 (Kg : Int))
          have HX7 := hide ((HX6.out.grown hoT (by simp <;> omega) (by simp <;> omega) (by simp <;> omega) (fun g e => by cases e; omega)).grown hoF (by simp <;> omega) (by simp <;> omega) (by simp <;> omega) (fun g e => by cases e; omega))
          have HT7 := hide ((HT6.out.set1 (.slice Ag ng mg)).grown hoF (by simp <;> omega))
          have HF7 := hide ((HF6.out.grown hoT (by simp <;> omega)).put (.int .i64 Eg) (.int .i64 (Kg : Int)))
          have HK7 : Hid (Keep (fun b => w5.heap.size < b) w6 (((w6.setCell ⟨w.heap.size + 3, 1, none⟩ (.slice Ag ng mg)).setCell ⟨w5.heap.size, 0, none⟩ (.int .i64 Eg)).setCell ⟨w5.heap.size, 1, none⟩ (.int .i64 (Kg : Int)))) := (Keep.of_grown hoT (fun b hb _ => by simp <;> omega)).trans (Keep.of_grown hoF (fun b hb _ => by simp <;> omega))
          have hs7 : w6.heap.size ≤ (((w6.setCell ⟨w.heap.size + 3, 1, none⟩ (.slice Ag ng mg)).setCell ⟨w5.heap.size, 0, none⟩ (.int .i64 Eg)).setCell ⟨w5.heap.size, 1, none⟩ (.int .i64 (Kg : Int))).heap.size := Nat.le_trans hoT.size hoF.size
          obtain ⟨w7, hw7⟩ : ∃ w7, w7 = (((w6.setCell ⟨w.heap.size + 3, 1, none⟩ (.slice Ag ng mg)).setCell ⟨w5.heap.size, 0, none⟩ (.int .i64 Eg)).setCell ⟨w5.heap.size, 1, none⟩ (.int .i64 (Kg : Int))) := ⟨_, rfl⟩
          rw [← hw7] at HX7 HT7 HF7 HK7 hs7 ⊢
          clear hw7 hoT hoF HX6 HT6 HF6 g0 g1 fg0 fg1 q0 q1 fq0 fq1 d0 d1 fd0 fd1 z0 z1 z2 z3 z4 z5 z6 z7' z8 y0 y1 y2 y3 y4 y5 y6 y7 y8 a0 a1 a2 a3 a4 a5 a6 a7 a8 b0 b1 b2 b3 b4 b5 b6 b7 b8
          obtain ⟨⟨q0, q1⟩, fq0, fq1⟩ := HX7.out.t.cells
          obtain ⟨⟨d0, d1⟩, fd0, fd1⟩ := HX7.out.d.cells
          obtain ⟨z0, z1, z2, z3, z4, z5, z6, z7', z8⟩ := HX7.out.z.cells
          have hzf := HX7.out.z.frozen
          have y0 := hzf 0
          have y1 := hzf 1
          have y2 := hzf 2
          have y3 := hzf 3
          have y4 := hzf 4
          have y5 := hzf 5
          have y6 := hzf 6
          have y7 := hzf 7
          have y8 := hzf 8
          clear hzf
          obtain ⟨a0, a1, a2, a3, a4, a5, a6, a7, a8⟩ := HT7.out.cells
          have htf := HT7.out.frozen
          have b0 := htf 0
          have b1 := htf 1
          have b2 := htf 2
          have b3 := htf 3
          have b4 := htf 4
          have b5 := htf 5
          have b6 := htf 6
          have b7 := htf 7
          have b8 := htf 8
          clear htf
          obtain ⟨⟨g0, g1⟩, fg0, fg1⟩ := HF7.out.cells
          obtain ⟨hE9, hK9, hne⟩ : Eg = Te ∧ Kg = ke ∧ Te ≠ 0 := by
            rcases HST.out with ⟨l, j, h5, _⟩ | ⟨h5, h6⟩
            · rw [h4] at h5; cases h5
            · rw [h4] at h5; cases h5; exact ⟨rfl, rfl, h6⟩
          subst hE9
          subst hK9
          have hne0 : (Eg == 0) = false := by simpa using hne
          have HNE := hide hne
          clear hne
          go_wp2
          go_region
          obtain ⟨wg, hwg, hfin⟩ := HX7.out.fin 4 (.string (X.tx (i + 1))) (.slice Ag ng mg) (.int .i64 0) (.string ⟨#[]⟩) (.int .i64 0) (.bool false) (.slice none 0 0) (.slice none 0 0) (.slice none 0 0) (.int .i64 Eg) (.int .i64 (Kg : Int)) (by omega) (by omega) (by omega) (by omega) (by omega)
          rw [← hwg]
          replace hfin := hfin.drew
          clear hwg
          obtain ⟨wf, hwf⟩ : ∃ wf, wf = wg.drew := ⟨_, rfl⟩
          rw [← hwf] at hfin ⊢
          clear hwf
          obtain ⟨hbf, hkf, u0, u1, u2, u3, u4, u5, u6, u7, u8, v0, v1⟩ := hfin
          have HBF := hide hbf
          have HKF := hide hkf
          clear hbf hkf
          go_wp2
          refine bodyPost_ret (v := .tuple #[.agg #[.string (X.tx (i + 1)), .slice Ag ng mg, .int .i64 0, .string ⟨#[]⟩, .int .i64 0, .bool false, .slice none 0 0, .slice none 0 0, .slice none 0 0], .int .i64 (Jg), .agg #[.int .i64 Eg, .int .i64 (Kg : Int)]]) (by simp [results, Tryz.results12, go_sem, u0, u1, u2, u3, u4, u5, u6, u7, u8, v0, v1]) rfl ?_
          rw [HRR.out, h4]
          exact ⟨HBF.out, HNE.out, _, Jg, rfl, _, _, _, _, _, _, _, _, _, _, _, _, _, _, _, _, _, rfl⟩
        | ok gs j =>
          have hjl : j ≤ X.ts.length := brackS_le (X := X) (E := givenS X) (i := i + 2) (by unfold brackS; rw [show mustS X (tC 40) (i + 2) = .ok () (i + 2 + 1) from if_pos h3]; exact h4)
          cases h5 : ((X.tx j).toList == [61]) with
          | false =>
            have HSL : Hid (r0 = .bad 7 (X.ps j)) := by
              rw [Hid, HRR.out, h4, Res.bind_ok]
              unfold mustS
              rw [if_neg (by rw [h5]; simp)]
              rfl
            go_enter Tryz.func12, Tryz.ntmps12
            go_upto_region 7 with (first
              | (go_at_call 24; refine (rText HX0.out.l (i)).mono ?_; rintro e w1 ⟨rfl, hb⟩; have HX1 := hide (HX0.out.below hb); have HT1 := hide (HT0.out.below hb); clear HX0 HT0; clear q0 q1 fq0 fq1 d0 d1 fd0 fd1 z0 z1 z2 z3 z4 z5 z6 z7' z8 y0 y1 y2 y3 y4 y5 y6 y7 y8 a0 a1 a2 a3 a4 a5 a6 a7 a8 b0 b1 b2 b3 b4 b5 b6 b7 b8; obtain ⟨⟨q0, q1⟩, fq0, fq1⟩ := HX1.out.t.cells; obtain ⟨⟨d0, d1⟩, fd0, fd1⟩ := HX1.out.d.cells; obtain ⟨z0, z1, z2, z3, z4, z5, z6, z7', z8⟩ := HX1.out.z.cells; have hzf := HX1.out.z.frozen; have y0 := hzf 0; have y1 := hzf 1; have y2 := hzf 2; have y3 := hzf 3; have y4 := hzf 4; have y5 := hzf 5; have y6 := hzf 6; have y7 := hzf 7; have y8 := hzf 8; clear hzf; obtain ⟨a0, a1, a2, a3, a4, a5, a6, a7, a8⟩ := HT1.out.cells; have htf := HT1.out.frozen; have b0 := htf 0; have b1 := htf 1; have b2 := htf 2; have b3 := htf 3; have b4 := htf 4; have b5 := htf 5; have b6 := htf 6; have b7 := htf 7; have b8 := htf 8; clear htf; clear hb)
              | (go_at_call 24; refine (rText HX1.out.l (i + 1)).mono ?_; rintro e w2 ⟨rfl, hb⟩; have HX2 := hide (HX1.out.below hb); have HT2 := hide (HT1.out.below hb); clear HX1 HT1; clear q0 q1 fq0 fq1 d0 d1 fd0 fd1 z0 z1 z2 z3 z4 z5 z6 z7' z8 y0 y1 y2 y3 y4 y5 y6 y7 y8 a0 a1 a2 a3 a4 a5 a6 a7 a8 b0 b1 b2 b3 b4 b5 b6 b7 b8; obtain ⟨⟨q0, q1⟩, fq0, fq1⟩ := HX2.out.t.cells; obtain ⟨⟨d0, d1⟩, fd0, fd1⟩ := HX2.out.d.cells; obtain ⟨z0, z1, z2, z3, z4, z5, z6, z7', z8⟩ := HX2.out.z.cells; have hzf := HX2.out.z.frozen; have y0 := hzf 0; have y1 := hzf 1; have y2 := hzf 2; have y3 := hzf 3; have y4 := hzf 4; have y5 := hzf 5; have y6 := hzf 6; have y7 := hzf 7; have y8 := hzf 8; clear hzf; obtain ⟨a0, a1, a2, a3, a4, a5, a6, a7, a8⟩ := HT2.out.cells; have htf := HT2.out.frozen; have b0 := htf 0; have b1 := htf 1; have b2 := htf 2; have b3 := htf 3; have b4 := htf 4; have b5 := htf 5; have b6 := htf 6; have b7 := htf 7; have b8 := htf 8; clear htf; clear hb)
              | (go_at_call 26; refine (rIsName (X.tx (i + 1)) _ (HSM.out _)).mono ?_; rw [h2]; rintro e w' ⟨rfl, hw'⟩; obtain rfl := hw'.symm; clear hw')
              | (go_at_call 24; refine (rText HX2.out.l (i + 1)).mono ?_; rintro e w3 ⟨rfl, hb⟩; have HX3 := hide (HX2.out.below hb); have HT3 := hide (HT2.out.below hb); clear HX2 HT2; clear q0 q1 fq0 fq1 d0 d1 fd0 fd1 z0 z1 z2 z3 z4 z5 z6 z7' z8 y0 y1 y2 y3 y4 y5 y6 y7 y8 a0 a1 a2 a3 a4 a5 a6 a7 a8 b0 b1 b2 b3 b4 b5 b6 b7 b8; obtain ⟨⟨q0, q1⟩, fq0, fq1⟩ := HX3.out.t.cells; obtain ⟨⟨d0, d1⟩, fd0, fd1⟩ := HX3.out.d.cells; obtain ⟨z0, z1, z2, z3, z4, z5, z6, z7', z8⟩ := HX3.out.z.cells; have hzf := HX3.out.z.frozen; have y0 := hzf 0; have y1 := hzf 1; have y2 := hzf 2; have y3 := hzf 3; have y4 := hzf 4; have y5 := hzf 5; have y6 := hzf 6; have y7 := hzf 7; have y8 := hzf 8; clear hzf; obtain ⟨a0, a1, a2, a3, a4, a5, a6, a7, a8⟩ := HT3.out.cells; have htf := HT3.out.frozen; have b0 := htf 0; have b1 := htf 1; have b2 := htf 2; have b3 := htf 3; have b4 := htf 4; have b5 := htf 5; have b6 := htf 6; have b7 := htf 7; have b8 := htf 8; clear htf; clear hb)
              )
            have hoT := set_out w3 (w.heap.size + 3) 0 (.string (X.tx (i + 1)))
            have HX4 := hide (HX3.out.grown hoT (by simp <;> omega) (by simp <;> omega) (by simp <;> omega) (fun g e => by cases e; omega))
            have HT4 := hide (HT3.out.set0 (.string (X.tx (i + 1))))
            obtain ⟨w4, hw4⟩ : ∃ w4, w4 = (w3.setCell ⟨w.heap.size + 3, 0, none⟩ (.string (X.tx (i + 1)))) := ⟨_, rfl⟩
            rw [← hw4] at HX4 HT4 ⊢
            clear hw4 hoT HX3 HT3
            clear q0 q1 fq0 fq1 d0 d1 fd0 fd1 z0 z1 z2 z3 z4 z5 z6 z7' z8 y0 y1 y2 y3 y4 y5 y6 y7 y8 a0 a1 a2 a3 a4 a5 a6 a7 a8 b0 b1 b2 b3 b4 b5 b6 b7 b8
            obtain ⟨⟨q0, q1⟩, fq0, fq1⟩ := HX4.out.t.cells
            obtain ⟨⟨d0, d1⟩, fd0, fd1⟩ := HX4.out.d.cells
            obtain ⟨z0, z1, z2, z3, z4, z5, z6, z7', z8⟩ := HX4.out.z.cells
            have hzf := HX4.out.z.frozen
            have y0 := hzf 0
            have y1 := hzf 1
            have y2 := hzf 2
            have y3 := hzf 3
            have y4 := hzf 4
            have y5 := hzf 5
            have y6 := hzf 6
            have y7 := hzf 7
            have y8 := hzf 8
            clear hzf
            obtain ⟨a0, a1, a2, a3, a4, a5, a6, a7, a8⟩ := HT4.out.cells
            have htf := HT4.out.frozen
            have b0 := htf 0
            have b1 := htf 1
            have b2 := htf 2
            have b3 := htf 3
            have b4 := htf 4
            have b5 := htf 5
            have b6 := htf 6
            have b7 := htf 7
            have b8 := htf 8
            clear htf
            go_upto_region 11 with (first
              | (go_at_call 24; refine (rText HX4.out.l (i + 2)).mono ?_; rintro e w5 ⟨rfl, hb⟩; have HX5 := hide (HX4.out.below hb); have HT5 := hide (HT4.out.below hb); clear HX4 HT4; clear q0 q1 fq0 fq1 d0 d1 fd0 fd1 z0 z1 z2 z3 z4 z5 z6 z7' z8 y0 y1 y2 y3 y4 y5 y6 y7 y8 a0 a1 a2 a3 a4 a5 a6 a7 a8 b0 b1 b2 b3 b4 b5 b6 b7 b8; obtain ⟨⟨q0, q1⟩, fq0, fq1⟩ := HX5.out.t.cells; obtain ⟨⟨d0, d1⟩, fd0, fd1⟩ := HX5.out.d.cells; obtain ⟨z0, z1, z2, z3, z4, z5, z6, z7', z8⟩ := HX5.out.z.cells; have hzf := HX5.out.z.frozen; have y0 := hzf 0; have y1 := hzf 1; have y2 := hzf 2; have y3 := hzf 3; have y4 := hzf 4; have y5 := hzf 5; have y6 := hzf 6; have y7 := hzf 7; have y8 := hzf 8; clear hzf; obtain ⟨a0, a1, a2, a3, a4, a5, a6, a7, a8⟩ := HT5.out.cells; have htf := HT5.out.frozen; have b0 := htf 0; have b1 := htf 1; have b2 := htf 2; have b3 := htf 3; have b4 := htf 4; have b5 := htf 5; have b6 := htf 6; have b7 := htf 7; have b8 := htf 8; clear htf; have hs5 := HX5.out.d.lt; have ht5 := HT5.out.lt; obtain ⟨⟨q2, q3⟩, _, _⟩ := (HX5.out.alloc (.cells #[.int .i64 0, .int .i64 0] 25)).t.cells; clear hb)
              | (go_at_call 27; refine (rGiven HOK.out (HX5.out.alloc (.cells #[.int .i64 0, .int .i64 0] 25)).l (i + 3) (by omega)).mono ?_; intro e w6 hr; obtain ⟨hb, Ag, ng, mg, Eg, Kg, Jg, rfl, hst⟩ := hr.anyG; have HST := hide hst; have HX6 := hide ((HX5.out.alloc (.cells #[.int .i64 0, .int .i64 0] 25)).below hb); have HT6 := hide ((HT5.out.alloc (.cells #[.int .i64 0, .int .i64 0] 25)).below hb); have HF6 : Hid (TwoAt 25 w6 w5.heap.size (.int .i64 0) (.int .i64 0)) := (TwoAt.new 25 w5 (.int .i64 0) (.int .i64 0)).below hb; have hs6 : w5.heap.size < w6.heap.size := (by have := hb.size; simp at this; omega); clear q2 q3 HX5 HT5; clear q0 q1 fq0 fq1 d0 d1 fd0 fd1 z0 z1 z2 z3 z4 z5 z6 z7' z8 y0 y1 y2 y3 y4 y5 y6 y7 y8 a0 a1 a2 a3 a4 a5 a6 a7 a8 b0 b1 b2 b3 b4 b5 b6 b7 b8; obtain ⟨⟨q0, q1⟩, fq0, fq1⟩ := HX6.out.t.cells; obtain ⟨⟨d0, d1⟩, fd0, fd1⟩ := HX6.out.d.cells; obtain ⟨z0, z1, z2, z3, z4, z5, z6, z7', z8⟩ := HX6.out.z.cells; have hzf := HX6.out.z.frozen; have y0 := hzf 0; have y1 := hzf 1; have y2 := hzf 2; have y3 := hzf 3; have y4 := hzf 4; have y5 := hzf 5; have y6 := hzf 6; have y7 := hzf 7; have y8 := hzf 8; clear hzf; obtain ⟨a0, a1, a2, a3, a4, a5, a6, a7, a8⟩ := HT6.out.cells; have htf := HT6.out.frozen; have b0 := htf 0; have b1 := htf 1; have b2 := htf 2; have b3 := htf 3; have b4 := htf 4; have b5 := htf 5; have b6 := htf 6; have b7 := htf 7; have b8 := htf 8; clear htf; obtain ⟨⟨g0, g1⟩, fg0, fg1⟩ := HF6.out.cells; clear hb hr hst)
              )
            have hoT := set_out w6 (w.heap.size + 3) 1 (.slice Ag ng mg)
            have hoF := TwoAt.out (w := (w6.setCell ⟨w.heap.size + 3, 1, none⟩ (.slice Ag ng mg))) (b := w5.heap.size) (.int .i64 Eg) (.int .i64 (Kg : Int))
            have HX7 := hide ((HX6.out.grown hoT (by simp <;> omega) (by simp <;> omega) (by simp <;> omega) (fun g e => by cases e; omega)).grown hoF (by simp <;> omega) (by simp <;> omega) (by simp <;> omega) (fun g e => by cases e; omega))
            have HT7 := hide ((HT6.out.set1 (.slice Ag ng mg)).grown hoF (by simp <;> omega))
            have HF7 := hide ((HF6.out.grown hoT (by simp <;> omega)).put (.int .i64 Eg) (.int .i64 (Kg : Int)))
            have HK7 : Hid (Keep (fun b => w5.heap.size < b) w6 (((w6.setCell ⟨w.heap.size + 3, 1, none⟩ (.slice Ag ng mg)).setCell ⟨w5.heap.size, 0, none⟩ (.int .i64 Eg)).setCell ⟨w5.heap.size, 1, none⟩ (.int .i64 (Kg : Int)))) := (Keep.of_grown hoT (fun b hb _ => by simp <;> omega)).trans (Keep.of_grown hoF (fun b hb _ => by simp <;> omega))
            have hs7 : w6.heap.size ≤ (((w6.setCell ⟨w.heap.size + 3, 1, none⟩ (.slice Ag ng mg)).setCell ⟨w5.heap.size, 0, none⟩ (.int .i64 Eg)).setCell ⟨w5.heap.size, 1, none⟩ (.int .i64 (Kg : Int))).heap.size := Nat.le_trans hoT.size hoF.size
            obtain ⟨w7, hw7⟩ : ∃ w7, w7 = (((w6.setCell ⟨w.heap.size + 3, 1, none⟩ (.slice Ag ng mg)).setCell ⟨w5.heap.size, 0, none⟩ (.int .i64 Eg)).setCell ⟨w5.heap.size, 1, none⟩ (.int .i64 (Kg : Int))) := ⟨_, rfl⟩
            rw [← hw7] at HX7 HT7 HF7 HK7 hs7 ⊢
            clear hw7 hoT hoF HX6 HT6 HF6 g0 g1 fg0 fg1 q0 q1 fq0 fq1 d0 d1 fd0 fd1 z0 z1 z2 z3 z4 z5 z6 z7' z8 y0 y1 y2 y3 y4 y5 y6 y7 y8 a0 a1 a2 a3 a4 a5 a6 a7 a8 b0 b1 b2 b3 b4 b5 b6 b7 b8
            obtain ⟨⟨q0, q1⟩, fq0, fq1⟩ := HX7.out.t.cells
            obtain ⟨⟨d0, d1⟩, fd0, fd1⟩ := HX7.out.d.cells
            obtain ⟨z0, z1, z2, z3, z4, z5, z6, z7', z8⟩ := HX7.out.z.cells
            have hzf := HX7.out.z.frozen
            have y0 := hzf 0
            have y1 := hzf 1
            have y2 := hzf 2
            have y3 := hzf 3
            have y4 := hzf 4
            have y5 := hzf 5
            have y6 := hzf 6
            have y7 := hzf 7
            have y8 := hzf 8
            clear hzf
            obtain ⟨a0, a1, a2, a3, a4, a5, a6, a7, a8⟩ := HT7.out.cells
            have htf := HT7.out.frozen
            have b0 := htf 0
            have b1 := htf 1
            have b2 := htf 2
            have b3 := htf 3
            have b4 := htf 4
            have b5 := htf 5
            have b6 := htf 6
            have b7 := htf 7
            have b8 := htf 8
            clear htf
            obtain ⟨⟨g0, g1⟩, fg0, fg1⟩ := HF7.out.cells
            have hsl : Jg = (j : Int) ∧ Eg = 0 ∧ Kg = 0 ∧ ng = gs.length ∧ SliceV GivenV w6 (from_ (w5.alloc (.cells #[.int .i64 0, .int .i64 0] 25))) gs (.slice Ag ng mg) := by
              rcases HST.out with ⟨l, j, h5, h6, h7, h8, h9, h10⟩ | ⟨h5, h6⟩
              · rw [h4] at h5; cases h5; exact ⟨h6, h7, h8, h9, h10⟩
              · rw [h4] at h5; cases h5
            obtain ⟨rfl, rfl, rfl, hng, hsv⟩ := hsl
            have HNG := hide hng
            have HSV := hide (GivenV.stays.slice (GivenV.stays.slice_weaken (S' := fun b => w5.heap.size < b) hsv (fun b hl hb => by have h9 : (w5.alloc (.cells #[.int .i64 0, .int .i64 0] 25)).heap.size ≤ b := hb; simp at h9; omega)) HK7.out)
            clear hsv hng
            go_wp2_with (first
              | (go_at_call 24; refine (rText HX7.out.l (j)).mono ?_; rintro e w8 ⟨rfl, hb⟩; have HX8 := hide (HX7.out.below hb); have HT8 := hide (HT7.out.below hb); clear HX7 HT7; clear q0 q1 fq0 fq1 d0 d1 fd0 fd1 z0 z1 z2 z3 z4 z5 z6 z7' z8 y0 y1 y2 y3 y4 y5 y6 y7 y8 a0 a1 a2 a3 a4 a5 a6 a7 a8 b0 b1 b2 b3 b4 b5 b6 b7 b8; obtain ⟨⟨q0, q1⟩, fq0, fq1⟩ := HX8.out.t.cells; obtain ⟨⟨d0, d1⟩, fd0, fd1⟩ := HX8.out.d.cells; obtain ⟨z0, z1, z2, z3, z4, z5, z6, z7', z8⟩ := HX8.out.z.cells; have hzf := HX8.out.z.frozen; have y0 := hzf 0; have y1 := hzf 1; have y2 := hzf 2; have y3 := hzf 3; have y4 := hzf 4; have y5 := hzf 5; have y6 := hzf 6; have y7 := hzf 7; have y8 := hzf 8; clear hzf; obtain ⟨a0, a1, a2, a3, a4, a5, a6, a7, a8⟩ := HT8.out.cells; have htf := HT8.out.frozen; have b0 := htf 0; have b1 := htf 1; have b2 := htf 2; have b3 := htf 3; have b4 := htf 4; have b5 := htf 5; have b6 := htf 6; have b7 := htf 7; have b8 := htf 8; clear htf; clear hb)
              )
            obtain ⟨p, hp⟩ : ∃ p, p = X.ps (j) := ⟨_, rfl⟩
            have HBA := hide (rBad (X := X) (A := A) (c := c) (w := w8.drew) HX8.out.drew.l (j))
            rw [← hp] at HBA
            have HPP := hide hp
            clear hp
            go_region_with (go_at_call 25; refine HBA.out.mono ?_; rintro e w9 ⟨rfl, hb⟩; have HX9 := hide (HX8.out.drew.below hb); have HT9 := hide (HT8.out.drew.below hb); clear q0 q1 fq0 fq1 d0 d1 fd0 fd1 z0 z1 z2 z3 z4 z5 z6 z7' z8 y0 y1 y2 y3 y4 y5 y6 y7 y8 a0 a1 a2 a3 a4 a5 a6 a7 a8 b0 b1 b2 b3 b4 b5 b6 b7 b8; obtain ⟨⟨q0, q1⟩, fq0, fq1⟩ := HX9.out.t.cells; obtain ⟨⟨d0, d1⟩, fd0, fd1⟩ := HX9.out.d.cells; obtain ⟨z0, z1, z2, z3, z4, z5, z6, z7', z8⟩ := HX9.out.z.cells; have hzf := HX9.out.z.frozen; have y0 := hzf 0; have y1 := hzf 1; have y2 := hzf 2; have y3 := hzf 3; have y4 := hzf 4; have y5 := hzf 5; have y6 := hzf 6; have y7 := hzf 7; have y8 := hzf 8; clear hzf; obtain ⟨a0, a1, a2, a3, a4, a5, a6, a7, a8⟩ := HT9.out.cells; have htf := HT9.out.frozen; have b0 := htf 0; have b1 := htf 1; have b2 := htf 2; have b3 := htf 3; have b4 := htf 4; have b5 := htf 5; have b6 := htf 6; have b7 := htf 7; have b8 := htf 8; clear htf; clear hb)
            all_goals
              obtain ⟨wg, hwg, hfin⟩ := HX9.out.fin 4 (.string (X.tx (i + 1))) (.slice Ag ng mg) (.int .i64 0) (.string ⟨#[]⟩) (.int .i64 0) (.bool false) (.slice none 0 0) (.slice none 0 0) (.slice none 0 0) (.int .i64 7) (.int .i64 (p : Int)) (by omega) (by omega) (by omega) (by omega) (by omega)
              rw [← hwg]
              clear hwg
              obtain ⟨hbf, hkf, u0, u1, u2, u3, u4, u5, u6, u7, u8, v0, v1⟩ := hfin
              have HBF := hide hbf
              have HKF := hide hkf
              clear hbf hkf
              go_wp2
              refine bodyPost_ret (v := .tuple #[.agg #[.string (X.tx (i + 1)), .slice Ag ng mg, .int .i64 0, .string ⟨#[]⟩, .int .i64 0, .bool false, .slice none 0 0, .slice none 0 0, .slice none 0 0], .int .i64 ((j : Int)), .agg #[.int .i64 7, .int .i64 (p : Int)]]) (by simp [results, Tryz.results12, go_sem, u0, u1, u2, u3, u4, u5, u6, u7, u8, v0, v1]) rfl ?_
              rw [HSL.out, ← HPP.out]
              exact ⟨HBF.out, by decide, _, (j : Int), rfl, _, _, _, _, _, _, _, _, _, _, _, _, _, _, _, _, _, rfl⟩
          | true =>
            have hjl2 := Tks.lt_of h5 (by simp)
            have HRE : Hid (r0 = (exprS X 64 (j + 1)).bind fun b i' => (mustS X (tC 59) i').bind fun _ i' => .ok ⟨X.tx (i + 1), gs, b⟩ i') := by
              rw [Hid, HRR.out, h4, Res.bind_ok, show mustS X (tC 61) j = .ok () (j + 1) from if_pos h5]
              rfl
            clear HRR
            cases h6 : exprS X 64 (j + 1) with
            | bad Te ke =>
              go_enter Tryz.func12, Tryz.ntmps12
              go_upto_region 7 with (first
                | (go_at_call 24; refine (rText HX0.out.l (i)).mono ?_; rintro e w1 ⟨rfl, hb⟩; have HX1 := hide (HX0.out.below hb); have HT1 := hide (HT0.out.below hb); clear HX0 HT0; clear q0 q1 fq0 fq1 d0 d1 fd0 fd1 z0 z1 z2 z3 z4 z5 z6 z7' z8 y0 y1 y2 y3 y4 y5 y6 y7 y8 a0 a1 a2 a3 a4 a5 a6 a7 a8 b0 b1 b2 b3 b4 b5 b6 b7 b8; obtain ⟨⟨q0, q1⟩, fq0, fq1⟩ := HX1.out.t.cells; obtain ⟨⟨d0, d1⟩, fd0, fd1⟩ := HX1.out.d.cells; obtain ⟨z0, z1, z2, z3, z4, z5, z6, z7', z8⟩ := HX1.out.z.cells; have hzf := HX1.out.z.frozen; have y0 := hzf 0; have y1 := hzf 1; have y2 := hzf 2; have y3 := hzf 3; have y4 := hzf 4; have y5 := hzf 5; have y6 := hzf 6; have y7 := hzf 7; have y8 := hzf 8; clear hzf; obtain ⟨a0, a1, a2, a3, a4, a5, a6, a7, a8⟩ := HT1.out.cells; have htf := HT1.out.frozen; have b0 := htf 0; have b1 := htf 1; have b2 := htf 2; have b3 := htf 3; have b4 := htf 4; have b5 := htf 5; have b6 := htf 6; have b7 := htf 7; have b8 := htf 8; clear htf; clear hb)
                | (go_at_call 24; refine (rText HX1.out.l (i + 1)).mono ?_; rintro e w2 ⟨rfl, hb⟩; have HX2 := hide (HX1.out.below hb); have HT2 := hide (HT1.out.below hb); clear HX1 HT1; clear q0 q1 fq0 fq1 d0 d1 fd0 fd1 z0 z1 z2 z3 z4 z5 z6 z7' z8 y0 y1 y2 y3 y4 y5 y6 y7 y8 a0 a1 a2 a3 a4 a5 a6 a7 a8 b0 b1 b2 b3 b4 b5 b6 b7 b8; obtain ⟨⟨q0, q1⟩, fq0, fq1⟩ := HX2.out.t.cells; obtain ⟨⟨d0, d1⟩, fd0, fd1⟩ := HX2.out.d.cells; obtain ⟨z0, z1, z2, z3, z4, z5, z6, z7', z8⟩ := HX2.out.z.cells; have hzf := HX2.out.z.frozen; have y0 := hzf 0; have y1 := hzf 1; have y2 := hzf 2; have y3 := hzf 3; have y4 := hzf 4; have y5 := hzf 5; have y6 := hzf 6; have y7 := hzf 7; have y8 := hzf 8; clear hzf; obtain ⟨a0, a1, a2, a3, a4, a5, a6, a7, a8⟩ := HT2.out.cells; have htf := HT2.out.frozen; have b0 := htf 0; have b1 := htf 1; have b2 := htf 2; have b3 := htf 3; have b4 := htf 4; have b5 := htf 5; have b6 := htf 6; have b7 := htf 7; have b8 := htf 8; clear htf; clear hb)
                | (go_at_call 26; refine (rIsName (X.tx (i + 1)) _ (HSM.out _)).mono ?_; rw [h2]; rintro e w' ⟨rfl, hw'⟩; obtain rfl := hw'.symm; clear hw')
                | (go_at_call 24; refine (rText HX2.out.l (i + 1)).mono ?_; rintro e w3 ⟨rfl, hb⟩; have HX3 := hide (HX2.out.below hb); have HT3 := hide (HT2.out.below hb); clear HX2 HT2; clear q0 q1 fq0 fq1 d0 d1 fd0 fd1 z0 z1 z2 z3 z4 z5 z6 z7' z8 y0 y1 y2 y3 y4 y5 y6 y7 y8 a0 a1 a2 a3 a4 a5 a6 a7 a8 b0 b1 b2 b3 b4 b5 b6 b7 b8; obtain ⟨⟨q0, q1⟩, fq0, fq1⟩ := HX3.out.t.cells; obtain ⟨⟨d0, d1⟩, fd0, fd1⟩ := HX3.out.d.cells; obtain ⟨z0, z1, z2, z3, z4, z5, z6, z7', z8⟩ := HX3.out.z.cells; have hzf := HX3.out.z.frozen; have y0 := hzf 0; have y1 := hzf 1; have y2 := hzf 2; have y3 := hzf 3; have y4 := hzf 4; have y5 := hzf 5; have y6 := hzf 6; have y7 := hzf 7; have y8 := hzf 8; clear hzf; obtain ⟨a0, a1, a2, a3, a4, a5, a6, a7, a8⟩ := HT3.out.cells; have htf := HT3.out.frozen; have b0 := htf 0; have b1 := htf 1; have b2 := htf 2; have b3 := htf 3; have b4 := htf 4; have b5 := htf 5; have b6 := htf 6; have b7 := htf 7; have b8 := htf 8; clear htf; clear hb)
                )
              have hoT := set_out w3 (w.heap.size + 3) 0 (.string (X.tx (i + 1)))
              have HX4 := hide (HX3.out.grown hoT (by simp <;> omega) (by simp <;> omega) (by simp <;> omega) (fun g e => by cases e; omega))
              have HT4 := hide (HT3.out.set0 (.string (X.tx (i + 1))))
              obtain ⟨w4, hw4⟩ : ∃ w4, w4 = (w3.setCell ⟨w.heap.size + 3, 0, none⟩ (.string (X.tx (i + 1)))) := ⟨_, rfl⟩
              rw [← hw4] at HX4 HT4 ⊢
              clear hw4 hoT HX3 HT3
              clear q0 q1 fq0 fq1 d0 d1 fd0 fd1 z0 z1 z2 z3 z4 z5 z6 z7' z8 y0 y1 y2 y3 y4 y5 y6 y7 y8 a0 a1 a2 a3 a4 a5 a6 a7 a8 b0 b1 b2 b3 b4 b5 b6 b7 b8
              obtain ⟨⟨q0, q1⟩, fq0, fq1⟩ := HX4.out.t.cells
              obtain ⟨⟨d0, d1⟩, fd0, fd1⟩ := HX4.out.d.cells
              obtain ⟨z0, z1, z2, z3, z4, z5, z6, z7', z8⟩ := HX4.out.z.cells
              have hzf := HX4.out.z.frozen
              have y0 := hzf 0
              have y1 := hzf 1
              have y2 := hzf 2
              have y3 := hzf 3
              have y4 := hzf 4
              have y5 := hzf 5
              have y6 := hzf 6
              have y7 := hzf 7
              have y8 := hzf 8
              clear hzf
              obtain ⟨a0, a1, a2, a3, a4, a5, a6, a7, a8⟩ := HT4.out.cells
              have htf := HT4.out.frozen
              have b0 := htf 0
              have b1 := htf 1
              have b2 := htf 2
              have b3 := htf 3
              have b4 := htf 4
              have b5 := htf 5
              have b6 := htf 6
              have b7 := htf 7
              have b8 := htf 8
              clear htf
              go_upto_region 11 with (first
                | (go_at_call 24; refine (rText HX4.out.l (i + 2)).mono ?_; rintro e w5 ⟨rfl, hb⟩; have HX5 := hide (HX4.out.below hb); have HT5 := hide (HT4.out.below hb); clear HX4 HT4; clear q0 q1 fq0 fq1 d0 d1 fd0 fd1 z0 z1 z2 z3 z4 z5 z6 z7' z8 y0 y1 y2 y3 y4 y5 y6 y7 y8 a0 a1 a2 a3 a4 a5 a6 a7 a8 b0 b1 b2 b3 b4 b5 b6 b7 b8; obtain ⟨⟨q0, q1⟩, fq0, fq1⟩ := HX5.out.t.cells; obtain ⟨⟨d0, d1⟩, fd0, fd1⟩ := HX5.out.d.cells; obtain ⟨z0, z1, z2, z3, z4, z5, z6, z7', z8⟩ := HX5.out.z.cells; have hzf := HX5.out.z.frozen; have y0 := hzf 0; have y1 := hzf 1; have y2 := hzf 2; have y3 := hzf 3; have y4 := hzf 4; have y5 := hzf 5; have y6 := hzf 6; have y7 := hzf 7; have y8 := hzf 8; clear hzf; obtain ⟨a0, a1, a2, a3, a4, a5, a6, a7, a8⟩ := HT5.out.cells; have htf := HT5.out.frozen; have b0 := htf 0; have b1 := htf 1; have b2 := htf 2; have b3 := htf 3; have b4 := htf 4; have b5 := htf 5; have b6 := htf 6; have b7 := htf 7; have b8 := htf 8; clear htf; have hs5 := HX5.out.d.lt; have ht5 := HT5.out.lt; obtain ⟨⟨q2, q3⟩, _, _⟩ := (HX5.out.alloc (.cells #[.int .i64 0, .int .i64 0] 25)).t.cells; clear hb)
                | (go_at_call 27; refine (rGiven HOK.out (HX5.out.alloc (.cells #[.int .i64 0, .int .i64 0] 25)).l (i + 3) (by omega)).mono ?_; intro e w6 hr; obtain ⟨hb, Ag, ng, mg, Eg, Kg, Jg, rfl, hst⟩ := hr.anyG; have HST := hide hst; have HX6 := hide ((HX5.out.alloc (.cells #[.int .i64 0, .int .i64 0] 25)).below hb); have HT6 := hide ((HT5.out.alloc (.cells #[.int .i64 0, .int .i64 0] 25)).below hb); have HF6 : Hid (TwoAt 25 w6 w5.heap.size (.int .i64 0) (.int .i64 0)) := (TwoAt.new 25 w5 (.int .i64 0) (.int .i64 0)).below hb; have hs6 : w5.heap.size < w6.heap.size := (by have := hb.size; simp at this; omega); clear q2 q3 HX5 HT5; clear q0 q1 fq0 fq1 d0 d1 fd0 fd1 z0 z1 z2 z3 z4 z5 z6 z7' z8 y0 y1 y2 y3 y4 y5 y6 y7 y8 a0 a1 a2 a3 a4 a5 a6 a7 a8 b0 b1 b2 b3 b4 b5 b6 b7 b8; obtain ⟨⟨q0, q1⟩, fq0, fq1⟩ := HX6.out.t.cells; obtain ⟨⟨d0, d1⟩, fd0, fd1⟩ := HX6.out.d.cells; obtain ⟨z0, z1, z2, z3, z4, z5, z6, z7', z8⟩ := HX6.out.z.cells; have hzf := HX6.out.z.frozen; have y0 := hzf 0; have y1 := hzf 1; have y2 := hzf 2; have y3 := hzf 3; have y4 := hzf 4; have y5 := hzf 5; have y6 := hzf 6; have y7 := hzf 7; have y8 := hzf 8; clear hzf; obtain ⟨a0, a1, a2, a3, a4, a5, a6, a7, a8⟩ := HT6.out.cells; have htf := HT6.out.frozen; have b0 := htf 0; have b1 := htf 1; have b2 := htf 2; have b3 := htf 3; have b4 := htf 4; have b5 := htf 5; have b6 := htf 6; have b7 := htf 7; have b8 := htf 8; clear htf; obtain ⟨⟨g0, g1⟩, fg0, fg1⟩ := HF6.out.cells; clear hb hr hst)
                )
              have hoT := set_out w6 (w.heap.size + 3) 1 (.slice Ag ng mg)
              have hoF := TwoAt.out (w := (w6.setCell ⟨w.heap.size + 3, 1, none⟩ (.slice Ag ng mg))) (b := w5.heap.size) (.int .i64 Eg) (.int .i64 (Kg : Int))
              have HX7 := hide ((HX6.out.grown hoT (by simp <;> omega) (by simp <;> omega) (by simp <;> omega) (fun g e => by cases e; omega)).grown hoF (by simp <;> omega) (by simp <;> omega) (by simp <;> omega) (fun g e => by cases e; omega))
              have HT7 := hide ((HT6.out.set1 (.slice Ag ng mg)).grown hoF (by simp <;> omega))
              have HF7 := hide ((HF6.out.grown hoT (by simp <;> omega)).put (.int .i64 Eg) (.int .i64 (Kg : Int)))
              have HK7 : Hid (Keep (fun b => w5.heap.size < b) w6 (((w6.setCell ⟨w.heap.size + 3, 1, none⟩ (.slice Ag ng mg)).setCell ⟨w5.heap.size, 0, none⟩ (.int .i64 Eg)).setCell ⟨w5.heap.size, 1, none⟩ (.int .i64 (Kg : Int)))) := (Keep.of_grown hoT (fun b hb _ => by simp <;> omega)).trans (Keep.of_grown hoF (fun b hb _ => by simp <;> omega))
              have hs7 : w6.heap.size ≤ (((w6.setCell ⟨w.heap.size + 3, 1, none⟩ (.slice Ag ng mg)).setCell ⟨w5.heap.size, 0, none⟩ (.int .i64 Eg)).setCell ⟨w5.heap.size, 1, none⟩ (.int .i64 (Kg : Int))).heap.size := Nat.le_trans hoT.size hoF.size
              obtain ⟨w7, hw7⟩ : ∃ w7, w7 = (((w6.setCell ⟨w.heap.size + 3, 1, none⟩ (.slice Ag ng mg)).setCell ⟨w5.heap.size, 0, none⟩ (.int .i64 Eg)).setCell ⟨w5.heap.size, 1, none⟩ (.int .i64 (Kg : Int))) := ⟨_, rfl⟩
              rw [← hw7] at HX7 HT7 HF7 HK7 hs7 ⊢
              clear hw7 hoT hoF HX6 HT6 HF6 g0 g1 fg0 fg1 q0 q1 fq0 fq1 d0 d1 fd0 fd1 z0 z1 z2 z3 z4 z5 z6 z7' z8 y0 y1 y2 y3 y4 y5 y6 y7 y8 a0 a1 a2 a3 a4 a5 a6 a7 a8 b0 b1 b2 b3 b4 b5 b6 b7 b8
              obtain ⟨⟨q0, q1⟩, fq0, fq1⟩ := HX7.out.t.cells
              obtain ⟨⟨d0, d1⟩, fd0, fd1⟩ := HX7.out.d.cells
              obtain ⟨z0, z1, z2, z3, z4, z5, z6, z7', z8⟩ := HX7.out.z.cells
              have hzf := HX7.out.z.frozen
              have y0 := hzf 0
              have y1 := hzf 1
              have y2 := hzf 2
              have y3 := hzf 3
              have y4 := hzf 4
              have y5 := hzf 5
              have y6 := hzf 6
              have y7 := hzf 7
              have y8 := hzf 8
              clear hzf
              obtain ⟨a0, a1, a2, a3, a4, a5, a6, a7, a8⟩ := HT7.out.cells
              have htf := HT7.out.frozen
              have b0 := htf 0
              have b1 := htf 1
              have b2 := htf 2
              have b3 := htf 3
              have b4 := htf 4
              have b5 := htf 5
              have b6 := htf 6
              have b7 := htf 7
              have b8 := htf 8
              clear htf
              obtain ⟨⟨g0, g1⟩, fg0, fg1⟩ := HF7.out.cells
              have hsl : Jg = (j : Int) ∧ Eg = 0 ∧ Kg = 0 ∧ ng = gs.length ∧ SliceV GivenV w6 (from_ (w5.alloc (.cells #[.int .i64 0, .int .i64 0] 25))) gs (.slice Ag ng mg) := by
                rcases HST.out with ⟨l, j, h5, h6, h7, h8, h9, h10⟩ | ⟨h5, h6⟩
                · rw [h4] at h5; cases h5; exact ⟨h6, h7, h8, h9, h10⟩
                · rw [h4] at h5; cases h5
              obtain ⟨rfl, rfl, rfl, hng, hsv⟩ := hsl
              have HNG := hide hng
              have HSV := hide (GivenV.stays.slice (GivenV.stays.slice_weaken (S' := fun b => w5.heap.size < b) hsv (fun b hl hb => by have h9 : (w5.alloc (.cells #[.int .i64 0, .int .i64 0] 25)).heap.size ≤ b := hb; simp at h9; omega)) HK7.out)
              clear hsv hng
              go_upto_region 16 with (first
                | (go_at_call 24; refine (rText HX7.out.l (j)).mono ?_; rintro e w8 ⟨rfl, hb⟩; have HX8 := hide (HX7.out.below hb); have HT8 := hide (HT7.out.below hb); have HF8 := hide (HF7.out.below hb); clear HX7 HT7 HF7; clear q0 q1 fq0 fq1 d0 d1 fd0 fd1 z0 z1 z2 z3 z4 z5 z6 z7' z8 y0 y1 y2 y3 y4 y5 y6 y7 y8 a0 a1 a2 a3 a4 a5 a6 a7 a8 b0 b1 b2 b3 b4 b5 b6 b7 b8; obtain ⟨⟨q0, q1⟩, fq0, fq1⟩ := HX8.out.t.cells; obtain ⟨⟨d0, d1⟩, fd0, fd1⟩ := HX8.out.d.cells; obtain ⟨z0, z1, z2, z3, z4, z5, z6, z7', z8⟩ := HX8.out.z.cells; have hzf := HX8.out.z.frozen; have y0 := hzf 0; have y1 := hzf 1; have y2 := hzf 2; have y3 := hzf 3; have y4 := hzf 4; have y5 := hzf 5; have y6 := hzf 6; have y7 := hzf 7; have y8 := hzf 8; clear hzf; obtain ⟨a0, a1, a2, a3, a4, a5, a6, a7, a8⟩ := HT8.out.cells; have htf := HT8.out.frozen; have b0 := htf 0; have b1 := htf 1; have b2 := htf 2; have b3 := htf 3; have b4 := htf 4; have b5 := htf 5; have b6 := htf 6; have b7 := htf 7; have b8 := htf 8; clear htf; have hs8 : w7.heap.size ≤ w8.heap.size := hb.size; have HS8 := hide (GivenV.stays.slice HSV.out (Keep.of_below hb)); clear g0 g1 fg0 fg1; obtain ⟨⟨g0, g1⟩, fg0, fg1⟩ := HF8.out.cells; clear hb)
                | (go_at_call 28; refine (HE.out w8 (j + 1) HX8.out.l (by omega)).mono ?_; intro e w10 hr; obtain ⟨hb, kx, nmx, nux, shx, Ax, nx, mx, Bx, px, qx, Cx, rx, sx, Ex, Kx, Jx, rfl, hst⟩ := hr.any; have HSX := hide hst; have HX10 := hide (HX8.out.below hb); have HT10 := hide (HT8.out.below hb); have HF10 := hide (HF8.out.below hb); have hs10 : w8.heap.size ≤ w10.heap.size := hb.size; have HS10 := hide (GivenV.stays.slice HS8.out (Keep.of_below hb)); clear HX8 HT8 HF8 HS8; clear g0 g1 fg0 fg1; clear q0 q1 fq0 fq1 d0 d1 fd0 fd1 z0 z1 z2 z3 z4 z5 z6 z7' z8 y0 y1 y2 y3 y4 y5 y6 y7 y8 a0 a1 a2 a3 a4 a5 a6 a7 a8 b0 b1 b2 b3 b4 b5 b6 b7 b8; obtain ⟨⟨q0, q1⟩, fq0, fq1⟩ := HX10.out.t.cells; obtain ⟨⟨d0, d1⟩, fd0, fd1⟩ := HX10.out.d.cells; obtain ⟨z0, z1, z2, z3, z4, z5, z6, z7', z8⟩ := HX10.out.z.cells; have hzf := HX10.out.z.frozen; have y0 := hzf 0; have y1 := hzf 1; have y2 := hzf 2; have y3 := hzf 3; have y4 := hzf 4; have y5 := hzf 5; have y6 := hzf 6; have y7 := hzf 7; have y8 := hzf 8; clear hzf; obtain ⟨a0, a1, a2, a3, a4, a5, a6, a7, a8⟩ := HT10.out.cells; have htf := HT10.out.frozen; have b0 := htf 0; have b1 := htf 1; have b2 := htf 2; have b3 := htf 3; have b4 := htf 4; have b5 := htf 5; have b6 := htf 6; have b7 := htf 7; have b8 := htf 8; clear htf; obtain ⟨⟨g0, g1⟩, fg0, fg1⟩ := HF10.out.cells; clear hb hr hst)
                )
              have hoT := NinAt.body_out w10 (w.heap.size + 3) (.int .i64 kx) (.string nmx) (.int .i64 nux) (.bool shx) (.slice Ax nx mx) (.slice Bx px qx) (.slice Cx rx sx)
              have hoF := TwoAt.out (w := (((((((w10.setCell ⟨w.heap.size + 3, 2, none⟩ (.int .i64 kx)).setCell ⟨w.heap.size + 3, 3, none⟩ (.string nmx)).setCell ⟨w.heap.size + 3, 4, none⟩ (.int .i64 nux)).setCell ⟨w.heap.size + 3, 5, none⟩ (.bool shx)).setCell ⟨w.heap.size + 3, 6, none⟩ (.slice Ax nx mx)).setCell ⟨w.heap.size + 3, 7, none⟩ (.slice Bx px qx)).setCell ⟨w.heap.size + 3, 8, none⟩ (.slice Cx rx sx))) (b := w5.heap.size) (.int .i64 Ex) (.int .i64 (Kx : Int))
              have HX11 := hide ((HX10.out.grown hoT (by simp <;> omega) (by simp <;> omega) (by simp <;> omega) (fun g e => by cases e; omega)).grown hoF (by simp <;> omega) (by simp <;> omega) (by simp <;> omega) (fun g e => by cases e; omega))
              have HT11 := hide ((HT10.out.body (.int .i64 kx) (.string nmx) (.int .i64 nux) (.bool shx) (.slice Ax nx mx) (.slice Bx px qx) (.slice Cx rx sx)).grown hoF (by simp <;> omega))
              have HF11 := hide ((HF10.out.grown hoT (by simp <;> omega)).put (.int .i64 Ex) (.int .i64 (Kx : Int)))
              have HK11 : Hid (Keep (fun b => w5.heap.size < b) w10 (((((((((w10.setCell ⟨w.heap.size + 3, 2, none⟩ (.int .i64 kx)).setCell ⟨w.heap.size + 3, 3, none⟩ (.string nmx)).setCell ⟨w.heap.size + 3, 4, none⟩ (.int .i64 nux)).setCell ⟨w.heap.size + 3, 5, none⟩ (.bool shx)).setCell ⟨w.heap.size + 3, 6, none⟩ (.slice Ax nx mx)).setCell ⟨w.heap.size + 3, 7, none⟩ (.slice Bx px qx)).setCell ⟨w.heap.size + 3, 8, none⟩ (.slice Cx rx sx)).setCell ⟨w5.heap.size, 0, none⟩ (.int .i64 Ex)).setCell ⟨w5.heap.size, 1, none⟩ (.int .i64 (Kx : Int)))) := (Keep.of_grown hoT (fun b hb _ => by simp <;> omega)).trans (Keep.of_grown hoF (fun b hb _ => by simp <;> omega))
              obtain ⟨w11, hw11⟩ : ∃ w11, w11 = (((((((((w10.setCell ⟨w.heap.size + 3, 2, none⟩ (.int .i64 kx)).setCell ⟨w.heap.size + 3, 3, none⟩ (.string nmx)).setCell ⟨w.heap.size + 3, 4, none⟩ (.int .i64 nux)).setCell ⟨w.heap.size + 3, 5, none⟩ (.bool shx)).setCell ⟨w.heap.size + 3, 6, none⟩ (.slice Ax nx mx)).setCell ⟨w.heap.size + 3, 7, none⟩ (.slice Bx px qx)).setCell ⟨w.heap.size + 3, 8, none⟩ (.slice Cx rx sx)).setCell ⟨w5.heap.size, 0, none⟩ (.int .i64 Ex)).setCell ⟨w5.heap.size, 1, none⟩ (.int .i64 (Kx : Int))) := ⟨_, rfl⟩
              rw [← hw11] at HX11 HT11 HF11 HK11 ⊢
              clear hw11 hoT hoF HX10 HT10 HF10 g0 g1 fg0 fg1 q0 q1 fq0 fq1 d0 d1 fd0 fd1 z0 z1 z2 z3 z4 z5 z6 z7' z8 y0 y1 y2 y3 y4 y5 y6 y7 y8 a0 a1 a2 a3 a4 a5 a6 a7 a8 b0 b1 b2 b3 b4 b5 b6 b7 b8
              obtain ⟨⟨q0, q1⟩, fq0, fq1⟩ := HX11.out.t.cells
              obtain ⟨⟨d0, d1⟩, fd0, fd1⟩ := HX11.out.d.cells
              obtain ⟨z0, z1, z2, z3, z4, z5, z6, z7', z8⟩ := HX11.out.z.cells
              have hzf := HX11.out.z.frozen
              have y0 := hzf 0
              have y1 := hzf 1
              have y2 := hzf 2
              have y3 := hzf 3
              have y4 := hzf 4
              have y5 := hzf 5
              have y6 := hzf 6
              have y7 := hzf 7
              have y8 := hzf 8
              clear hzf
              obtain ⟨a0, a1, a2, a3, a4, a5, a6, a7, a8⟩ := HT11.out.cells
              have htf := HT11.out.frozen
              have b0 := htf 0
              have b1 := htf 1
              have b2 := htf 2
              have b3 := htf 3
              have b4 := htf 4
              have b5 := htf 5
              have b6 := htf 6
              have b7 := htf 7
              have b8 := htf 8
              clear htf
              obtain ⟨⟨g0, g1⟩, fg0, fg1⟩ := HF11.out.cells
              obtain ⟨hE9, hK9, hne⟩ : Ex = Te ∧ Kx = ke ∧ Te ≠ 0 := by
                rcases HSX.out with ⟨l, j, h7, _⟩ | ⟨h7, h8⟩
                · rw [h6] at h7; cases h7
                · rw [h6] at h7; cases h7; exact ⟨rfl, rfl, h8⟩
              subst hE9
              subst hK9
              have hne0 : (Ex == 0) = false := by simpa using hne
              have HNE := hide hne
              clear hne
              go_wp2
              go_region
              obtain ⟨wg, hwg, hfin⟩ := HX11.out.fin 4 (.string (X.tx (i + 1))) (.slice Ag ng mg) (.int .i64 kx) (.string nmx) (.int .i64 nux) (.bool shx) (.slice Ax nx mx) (.slice Bx px qx) (.slice Cx rx sx) (.int .i64 Ex) (.int .i64 (Kx : Int)) (by omega) (by omega) (by omega) (by omega) (by omega)
              rw [← hwg]
              replace hfin := hfin.drew
              clear hwg
              obtain ⟨wf, hwf⟩ : ∃ wf, wf = wg.drew := ⟨_, rfl⟩
              rw [← hwf] at hfin ⊢
              clear hwf
              obtain ⟨hbf, hkf, u0, u1, u2, u3, u4, u5, u6, u7, u8, v0, v1⟩ := hfin
              have HBF := hide hbf
              have HKF := hide hkf
              clear hbf hkf
              go_wp2
              refine bodyPost_ret (v := .tuple #[.agg #[.string (X.tx (i + 1)), .slice Ag ng mg, .int .i64 kx, .string nmx, .int .i64 nux, .bool shx, .slice Ax nx mx, .slice Bx px qx, .slice Cx rx sx], .int .i64 (wrap64 (Jx + 1)), .agg #[.int .i64 Ex, .int .i64 (Kx : Int)]]) (by simp [results, Tryz.results12, go_sem, u0, u1, u2, u3, u4, u5, u6, u7, u8, v0, v1]) rfl ?_
              rw [HRE.out, h6]
              exact ⟨HBF.out, HNE.out, _, wrap64 (Jx + 1), rfl, _, _, _, _, _, _, _, _, _, _, _, _, _, _, _, _, _, rfl⟩
            | ok tb j2 =>
              have hj2l := exprS_le _ _ h6
              cases h8 : ((X.tx j2).toList == [59]) with
              | false =>
                go_enter Tryz.func12, Tryz.ntmps12
                go_upto_region 7 with (first
                  | (go_at_call 24; refine (rText HX0.out.l (i)).mono ?_; rintro e w1 ⟨rfl, hb⟩; have HX1 := hide (HX0.out.below hb); have HT1 := hide (HT0.out.below hb); clear HX0 HT0; clear q0 q1 fq0 fq1 d0 d1 fd0 fd1 z0 z1 z2 z3 z4 z5 z6 z7' z8 y0 y1 y2 y3 y4 y5 y6 y7 y8 a0 a1 a2 a3 a4 a5 a6 a7 a8 b0 b1 b2 b3 b4 b5 b6 b7 b8; obtain ⟨⟨q0, q1⟩, fq0, fq1⟩ := HX1.out.t.cells; obtain ⟨⟨d0, d1⟩, fd0, fd1⟩ := HX1.out.d.cells; obtain ⟨z0, z1, z2, z3, z4, z5, z6, z7', z8⟩ := HX1.out.z.cells; have hzf := HX1.out.z.frozen; have y0 := hzf 0; have y1 := hzf 1; have y2 := hzf 2; have y3 := hzf 3; have y4 := hzf 4; have y5 := hzf 5; have y6 := hzf 6; have y7 := hzf 7; have y8 := hzf 8; clear hzf; obtain ⟨a0, a1, a2, a3, a4, a5, a6, a7, a8⟩ := HT1.out.cells; have htf := HT1.out.frozen; have b0 := htf 0; have b1 := htf 1; have b2 := htf 2; have b3 := htf 3; have b4 := htf 4; have b5 := htf 5; have b6 := htf 6; have b7 := htf 7; have b8 := htf 8; clear htf; clear hb)
                  | (go_at_call 24; refine (rText HX1.out.l (i + 1)).mono ?_; rintro e w2 ⟨rfl, hb⟩; have HX2 := hide (HX1.out.below hb); have HT2 := hide (HT1.out.below hb); clear HX1 HT1; clear q0 q1 fq0 fq1 d0 d1 fd0 fd1 z0 z1 z2 z3 z4 z5 z6 z7' z8 y0 y1 y2 y3 y4 y5 y6 y7 y8 a0 a1 a2 a3 a4 a5 a6 a7 a8 b0 b1 b2 b3 b4 b5 b6 b7 b8; obtain ⟨⟨q0, q1⟩, fq0, fq1⟩ := HX2.out.t.cells; obtain ⟨⟨d0, d1⟩, fd0, fd1⟩ := HX2.out.d.cells; obtain ⟨z0, z1, z2, z3, z4, z5, z6, z7', z8⟩ := HX2.out.z.cells; have hzf := HX2.out.z.frozen; have y0 := hzf 0; have y1 := hzf 1; have y2 := hzf 2; have y3 := hzf 3; have y4 := hzf 4; have y5 := hzf 5; have y6 := hzf 6; have y7 := hzf 7; have y8 := hzf 8; clear hzf; obtain ⟨a0, a1, a2, a3, a4, a5, a6, a7, a8⟩ := HT2.out.cells; have htf := HT2.out.frozen; have b0 := htf 0; have b1 := htf 1; have b2 := htf 2; have b3 := htf 3; have b4 := htf 4; have b5 := htf 5; have b6 := htf 6; have b7 := htf 7; have b8 := htf 8; clear htf; clear hb)
                  | (go_at_call 26; refine (rIsName (X.tx (i + 1)) _ (HSM.out _)).mono ?_; rw [h2]; rintro e w' ⟨rfl, hw'⟩; obtain rfl := hw'.symm; clear hw')
                  | (go_at_call 24; refine (rText HX2.out.l (i + 1)).mono ?_; rintro e w3 ⟨rfl, hb⟩; have HX3 := hide (HX2.out.below hb); have HT3 := hide (HT2.out.below hb); clear HX2 HT2; clear q0 q1 fq0 fq1 d0 d1 fd0 fd1 z0 z1 z2 z3 z4 z5 z6 z7' z8 y0 y1 y2 y3 y4 y5 y6 y7 y8 a0 a1 a2 a3 a4 a5 a6 a7 a8 b0 b1 b2 b3 b4 b5 b6 b7 b8; obtain ⟨⟨q0, q1⟩, fq0, fq1⟩ := HX3.out.t.cells; obtain ⟨⟨d0, d1⟩, fd0, fd1⟩ := HX3.out.d.cells; obtain ⟨z0, z1, z2, z3, z4, z5, z6, z7', z8⟩ := HX3.out.z.cells; have hzf := HX3.out.z.frozen; have y0 := hzf 0; have y1 := hzf 1; have y2 := hzf 2; have y3 := hzf 3; have y4 := hzf 4; have y5 := hzf 5; have y6 := hzf 6; have y7 := hzf 7; have y8 := hzf 8; clear hzf; obtain ⟨a0, a1, a2, a3, a4, a5, a6, a7, a8⟩ := HT3.out.cells; have htf := HT3.out.frozen; have b0 := htf 0; have b1 := htf 1; have b2 := htf 2; have b3 := htf 3; have b4 := htf 4; have b5 := htf 5; have b6 := htf 6; have b7 := htf 7; have b8 := htf 8; clear htf; clear hb)
                  )
                have hoT := set_out w3 (w.heap.size + 3) 0 (.string (X.tx (i + 1)))
                have HX4 := hide (HX3.out.grown hoT (by simp <;> omega) (by simp <;> omega) (by simp <;> omega) (fun g e => by cases e; omega))
                have HT4 := hide (HT3.out.set0 (.string (X.tx (i + 1))))
                obtain ⟨w4, hw4⟩ : ∃ w4, w4 = (w3.setCell ⟨w.heap.size + 3, 0, none⟩ (.string (X.tx (i + 1)))) := ⟨_, rfl⟩
                rw [← hw4] at HX4 HT4 ⊢
                clear hw4 hoT HX3 HT3
                clear q0 q1 fq0 fq1 d0 d1 fd0 fd1 z0 z1 z2 z3 z4 z5 z6 z7' z8 y0 y1 y2 y3 y4 y5 y6 y7 y8 a0 a1 a2 a3 a4 a5 a6 a7 a8 b0 b1 b2 b3 b4 b5 b6 b7 b8
                obtain ⟨⟨q0, q1⟩, fq0, fq1⟩ := HX4.out.t.cells
                obtain ⟨⟨d0, d1⟩, fd0, fd1⟩ := HX4.out.d.cells
                obtain ⟨z0, z1, z2, z3, z4, z5, z6, z7', z8⟩ := HX4.out.z.cells
                have hzf := HX4.out.z.frozen
                have y0 := hzf 0
                have y1 := hzf 1
                have y2 := hzf 2
                have y3 := hzf 3
                have y4 := hzf 4
                have y5 := hzf 5
                have y6 := hzf 6
                have y7 := hzf 7
                have y8 := hzf 8
                clear hzf
                obtain ⟨a0, a1, a2, a3, a4, a5, a6, a7, a8⟩ := HT4.out.cells
                have htf := HT4.out.frozen
                have b0 := htf 0
                have b1 := htf 1
                have b2 := htf 2
                have b3 := htf 3
                have b4 := htf 4
                have b5 := htf 5
                have b6 := htf 6
                have b7 := htf 7
                have b8 := htf 8
                clear htf
                go_upto_region 11 with (first
                  | (go_at_call 24; refine (rText HX4.out.l (i + 2)).mono ?_; rintro e w5 ⟨rfl, hb⟩; have HX5 := hide (HX4.out.below hb); have HT5 := hide (HT4.out.below hb); clear HX4 HT4; clear q0 q1 fq0 fq1 d0 d1 fd0 fd1 z0 z1 z2 z3 z4 z5 z6 z7' z8 y0 y1 y2 y3 y4 y5 y6 y7 y8 a0 a1 a2 a3 a4 a5 a6 a7 a8 b0 b1 b2 b3 b4 b5 b6 b7 b8; obtain ⟨⟨q0, q1⟩, fq0, fq1⟩ := HX5.out.t.cells; obtain ⟨⟨d0, d1⟩, fd0, fd1⟩ := HX5.out.d.cells; obtain ⟨z0, z1, z2, z3, z4, z5, z6, z7', z8⟩ := HX5.out.z.cells; have hzf := HX5.out.z.frozen; have y0 := hzf 0; have y1 := hzf 1; have y2 := hzf 2; have y3 := hzf 3; have y4 := hzf 4; have y5 := hzf 5; have y6 := hzf 6; have y7 := hzf 7; have y8 := hzf 8; clear hzf; obtain ⟨a0, a1, a2, a3, a4, a5, a6, a7, a8⟩ := HT5.out.cells; have htf := HT5.out.frozen; have b0 := htf 0; have b1 := htf 1; have b2 := htf 2; have b3 := htf 3; have b4 := htf 4; have b5 := htf 5; have b6 := htf 6; have b7 := htf 7; have b8 := htf 8; clear htf; have hs5 := HX5.out.d.lt; have ht5 := HT5.out.lt; obtain ⟨⟨q2, q3⟩, _, _⟩ := (HX5.out.alloc (.cells #[.int .i64 0, .int .i64 0] 25)).t.cells; clear hb)
                  | (go_at_call 27; refine (rGiven HOK.out (HX5.out.alloc (.cells #[.int .i64 0, .int .i64 0] 25)).l (i + 3) (by omega)).mono ?_; intro e w6 hr; obtain ⟨hb, Ag, ng, mg, Eg, Kg, Jg, rfl, hst⟩ := hr.anyG; have HST := hide hst; have HX6 := hide ((HX5.out.alloc (.cells #[.int .i64 0, .int .i64 0] 25)).below hb); have HT6 := hide ((HT5.out.alloc (.cells #[.int .i64 0, .int .i64 0] 25)).below hb); have HF6 : Hid (TwoAt 25 w6 w5.heap.size (.int .i64 0) (.int .i64 0)) := (TwoAt.new 25 w5 (.int .i64 0) (.int .i64 0)).below hb; have hs6 : w5.heap.size < w6.heap.size := (by have := hb.size; simp at this; omega); clear q2 q3 HX5 HT5; clear q0 q1 fq0 fq1 d0 d1 fd0 fd1 z0 z1 z2 z3 z4 z5 z6 z7' z8 y0 y1 y2 y3 y4 y5 y6 y7 y8 a0 a1 a2 a3 a4 a5 a6 a7 a8 b0 b1 b2 b3 b4 b5 b6 b7 b8; obtain ⟨⟨q0, q1⟩, fq0, fq1⟩ := HX6.out.t.cells; obtain ⟨⟨d0, d1⟩, fd0, fd1⟩ := HX6.out.d.cells; obtain ⟨z0, z1, z2, z3, z4, z5, z6, z7', z8⟩ := HX6.out.z.cells; have hzf := HX6.out.z.frozen; have y0 := hzf 0; have y1 := hzf 1; have y2 := hzf 2; have y3 := hzf 3; have y4 := hzf 4; have y5 := hzf 5; have y6 := hzf 6; have y7 := hzf 7; have y8 := hzf 8; clear hzf; obtain ⟨a0, a1, a2, a3, a4, a5, a6, a7, a8⟩ := HT6.out.cells; have htf := HT6.out.frozen; have b0 := htf 0; have b1 := htf 1; have b2 := htf 2; have b3 := htf 3; have b4 := htf 4; have b5 := htf 5; have b6 := htf 6; have b7 := htf 7; have b8 := htf 8; clear htf; obtain ⟨⟨g0, g1⟩, fg0, fg1⟩ := HF6.out.cells; clear hb hr hst)
                  )
                have hoT := set_out w6 (w.heap.size + 3) 1 (.slice Ag ng mg)
                have hoF := TwoAt.out (w := (w6.setCell ⟨w.heap.size + 3, 1, none⟩ (.slice Ag ng mg))) (b := w5.heap.size) (.int .i64 Eg) (.int .i64 (Kg : Int))
                have HX7 := hide ((HX6.out.grown hoT (by simp <;> omega) (by simp <;> omega) (by simp <;> omega) (fun g e => by cases e; omega)).grown hoF (by simp <;> omega) (by simp <;> omega) (by simp <;> omega) (fun g e => by cases e; omega))
                have HT7 := hide ((HT6.out.set1 (.slice Ag ng mg)).grown hoF (by simp <;> omega))
                have HF7 := hide ((HF6.out.grown hoT (by simp <;> omega)).put (.int .i64 Eg) (.int .i64 (Kg : Int)))
                have HK7 : Hid (Keep (fun b => w5.heap.size < b) w6 (((w6.setCell ⟨w.heap.size + 3, 1, none⟩ (.slice Ag ng mg)).setCell ⟨w5.heap.size, 0, none⟩ (.int .i64 Eg)).setCell ⟨w5.heap.size, 1, none⟩ (.int .i64 (Kg : Int)))) := (Keep.of_grown hoT (fun b hb _ => by simp <;> omega)).trans (Keep.of_grown hoF (fun b hb _ => by simp <;> omega))
                have hs7 : w6.heap.size ≤ (((w6.setCell ⟨w.heap.size + 3, 1, none⟩ (.slice Ag ng mg)).setCell ⟨w5.heap.size, 0, none⟩ (.int .i64 Eg)).setCell ⟨w5.heap.size, 1, none⟩ (.int .i64 (Kg : Int))).heap.size := Nat.le_trans hoT.size hoF.size
                obtain ⟨w7, hw7⟩ : ∃ w7, w7 = (((w6.setCell ⟨w.heap.size + 3, 1, none⟩ (.slice Ag ng mg)).setCell ⟨w5.heap.size, 0, none⟩ (.int .i64 Eg)).setCell ⟨w5.heap.size, 1, none⟩ (.int .i64 (Kg : Int))) := ⟨_, rfl⟩
                rw [← hw7] at HX7 HT7 HF7 HK7 hs7 ⊢
                clear hw7 hoT hoF HX6 HT6 HF6 g0 g1 fg0 fg1 q0 q1 fq0 fq1 d0 d1 fd0 fd1 z0 z1 z2 z3 z4 z5 z6 z7' z8 y0 y1 y2 y3 y4 y5 y6 y7 y8 a0 a1 a2 a3 a4 a5 a6 a7 a8 b0 b1 b2 b3 b4 b5 b6 b7 b8
                obtain ⟨⟨q0, q1⟩, fq0, fq1⟩ := HX7.out.t.cells
                obtain ⟨⟨d0, d1⟩, fd0, fd1⟩ := HX7.out.d.cells
                obtain ⟨z0, z1, z2, z3, z4, z5, z6, z7', z8⟩ := HX7.out.z.cells
                have hzf := HX7.out.z.frozen
                have y0 := hzf 0
                have y1 := hzf 1
                have y2 := hzf 2
                have y3 := hzf 3
                have y4 := hzf 4
                have y5 := hzf 5
                have y6 := hzf 6
                have y7 := hzf 7
                have y8 := hzf 8
                clear hzf
                obtain ⟨a0, a1, a2, a3, a4, a5, a6, a7, a8⟩ := HT7.out.cells
                have htf := HT7.out.frozen
                have b0 := htf 0
                have b1 := htf 1
                have b2 := htf 2
                have b3 := htf 3
                have b4 := htf 4
                have b5 := htf 5
                have b6 := htf 6
                have b7 := htf 7
                have b8 := htf 8
                clear htf
                obtain ⟨⟨g0, g1⟩, fg0, fg1⟩ := HF7.out.cells
                have hsl : Jg = (j : Int) ∧ Eg = 0 ∧ Kg = 0 ∧ ng = gs.length ∧ SliceV GivenV w6 (from_ (w5.alloc (.cells #[.int .i64 0, .int .i64 0] 25))) gs (.slice Ag ng mg) := by
                  rcases HST.out with ⟨l, j, h5, h6, h7, h8, h9, h10⟩ | ⟨h5, h6⟩
                  · rw [h4] at h5; cases h5; exact ⟨h6, h7, h8, h9, h10⟩
                  · rw [h4] at h5; cases h5
                obtain ⟨rfl, rfl, rfl, hng, hsv⟩ := hsl
                have HNG := hide hng
                have HSV := hide (GivenV.stays.slice (GivenV.stays.slice_weaken (S' := fun b => w5.heap.size < b) hsv (fun b hl hb => by have h9 : (w5.alloc (.cells #[.int .i64 0, .int .i64 0] 25)).heap.size ≤ b := hb; simp at h9; omega)) HK7.out)
                clear hsv hng
                go_upto_region 16 with (first
                  | (go_at_call 24; refine (rText HX7.out.l (j)).mono ?_; rintro e w8 ⟨rfl, hb⟩; have HX8 := hide (HX7.out.below hb); have HT8 := hide (HT7.out.below hb); have HF8 := hide (HF7.out.below hb); clear HX7 HT7 HF7; clear q0 q1 fq0 fq1 d0 d1 fd0 fd1 z0 z1 z2 z3 z4 z5 z6 z7' z8 y0 y1 y2 y3 y4 y5 y6 y7 y8 a0 a1 a2 a3 a4 a5 a6 a7 a8 b0 b1 b2 b3 b4 b5 b6 b7 b8; obtain ⟨⟨q0, q1⟩, fq0, fq1⟩ := HX8.out.t.cells; obtain ⟨⟨d0, d1⟩, fd0, fd1⟩ := HX8.out.d.cells; obtain ⟨z0, z1, z2, z3, z4, z5, z6, z7', z8⟩ := HX8.out.z.cells; have hzf := HX8.out.z.frozen; have y0 := hzf 0; have y1 := hzf 1; have y2 := hzf 2; have y3 := hzf 3; have y4 := hzf 4; have y5 := hzf 5; have y6 := hzf 6; have y7 := hzf 7; have y8 := hzf 8; clear hzf; obtain ⟨a0, a1, a2, a3, a4, a5, a6, a7, a8⟩ := HT8.out.cells; have htf := HT8.out.frozen; have b0 := htf 0; have b1 := htf 1; have b2 := htf 2; have b3 := htf 3; have b4 := htf 4; have b5 := htf 5; have b6 := htf 6; have b7 := htf 7; have b8 := htf 8; clear htf; have hs8 : w7.heap.size ≤ w8.heap.size := hb.size; have HS8 := hide (GivenV.stays.slice HSV.out (Keep.of_below hb)); clear g0 g1 fg0 fg1; obtain ⟨⟨g0, g1⟩, fg0, fg1⟩ := HF8.out.cells; clear hb)
                  | (go_at_call 28; refine (HE.out w8 (j + 1) HX8.out.l (by omega)).mono ?_; intro e w10 hr; obtain ⟨hb, kx, nmx, nux, shx, Ax, nx, mx, Bx, px, qx, Cx, rx, sx, Ex, Kx, Jx, rfl, hst⟩ := hr.any; have HSX := hide hst; have HX10 := hide (HX8.out.below hb); have HT10 := hide (HT8.out.below hb); have HF10 := hide (HF8.out.below hb); have hs10 : w8.heap.size ≤ w10.heap.size := hb.size; have HS10 := hide (GivenV.stays.slice HS8.out (Keep.of_below hb)); clear HX8 HT8 HF8 HS8; clear g0 g1 fg0 fg1; clear q0 q1 fq0 fq1 d0 d1 fd0 fd1 z0 z1 z2 z3 z4 z5 z6 z7' z8 y0 y1 y2 y3 y4 y5 y6 y7 y8 a0 a1 a2 a3 a4 a5 a6 a7 a8 b0 b1 b2 b3 b4 b5 b6 b7 b8; obtain ⟨⟨q0, q1⟩, fq0, fq1⟩ := HX10.out.t.cells; obtain ⟨⟨d0, d1⟩, fd0, fd1⟩ := HX10.out.d.cells; obtain ⟨z0, z1, z2, z3, z4, z5, z6, z7', z8⟩ := HX10.out.z.cells; have hzf := HX10.out.z.frozen; have y0 := hzf 0; have y1 := hzf 1; have y2 := hzf 2; have y3 := hzf 3; have y4 := hzf 4; have y5 := hzf 5; have y6 := hzf 6; have y7 := hzf 7; have y8 := hzf 8; clear hzf; obtain ⟨a0, a1, a2, a3, a4, a5, a6, a7, a8⟩ := HT10.out.cells; have htf := HT10.out.frozen; have b0 := htf 0; have b1 := htf 1; have b2 := htf 2; have b3 := htf 3; have b4 := htf 4; have b5 := htf 5; have b6 := htf 6; have b7 := htf 7; have b8 := htf 8; clear htf; obtain ⟨⟨g0, g1⟩, fg0, fg1⟩ := HF10.out.cells; clear hb hr hst)
                  )
                have hoT := NinAt.body_out w10 (w.heap.size + 3) (.int .i64 kx) (.string nmx) (.int .i64 nux) (.bool shx) (.slice Ax nx mx) (.slice Bx px qx) (.slice Cx rx sx)
                have hoF := TwoAt.out (w := (((((((w10.setCell ⟨w.heap.size + 3, 2, none⟩ (.int .i64 kx)).setCell ⟨w.heap.size + 3, 3, none⟩ (.string nmx)).setCell ⟨w.heap.size + 3, 4, none⟩ (.int .i64 nux)).setCell ⟨w.heap.size + 3, 5, none⟩ (.bool shx)).setCell ⟨w.heap.size + 3, 6, none⟩ (.slice Ax nx mx)).setCell ⟨w.heap.size + 3, 7, none⟩ (.slice Bx px qx)).setCell ⟨w.heap.size + 3, 8, none⟩ (.slice Cx rx sx))) (b := w5.heap.size) (.int .i64 Ex) (.int .i64 (Kx : Int))
                have HX11 := hide ((HX10.out.grown hoT (by simp <;> omega) (by simp <;> omega) (by simp <;> omega) (fun g e => by cases e; omega)).grown hoF (by simp <;> omega) (by simp <;> omega) (by simp <;> omega) (fun g e => by cases e; omega))
                have HT11 := hide ((HT10.out.body (.int .i64 kx) (.string nmx) (.int .i64 nux) (.bool shx) (.slice Ax nx mx) (.slice Bx px qx) (.slice Cx rx sx)).grown hoF (by simp <;> omega))
                have HF11 := hide ((HF10.out.grown hoT (by simp <;> omega)).put (.int .i64 Ex) (.int .i64 (Kx : Int)))
                have HK11 : Hid (Keep (fun b => w5.heap.size < b) w10 (((((((((w10.setCell ⟨w.heap.size + 3, 2, none⟩ (.int .i64 kx)).setCell ⟨w.heap.size + 3, 3, none⟩ (.string nmx)).setCell ⟨w.heap.size + 3, 4, none⟩ (.int .i64 nux)).setCell ⟨w.heap.size + 3, 5, none⟩ (.bool shx)).setCell ⟨w.heap.size + 3, 6, none⟩ (.slice Ax nx mx)).setCell ⟨w.heap.size + 3, 7, none⟩ (.slice Bx px qx)).setCell ⟨w.heap.size + 3, 8, none⟩ (.slice Cx rx sx)).setCell ⟨w5.heap.size, 0, none⟩ (.int .i64 Ex)).setCell ⟨w5.heap.size, 1, none⟩ (.int .i64 (Kx : Int)))) := (Keep.of_grown hoT (fun b hb _ => by simp <;> omega)).trans (Keep.of_grown hoF (fun b hb _ => by simp <;> omega))
                obtain ⟨w11, hw11⟩ : ∃ w11, w11 = (((((((((w10.setCell ⟨w.heap.size + 3, 2, none⟩ (.int .i64 kx)).setCell ⟨w.heap.size + 3, 3, none⟩ (.string nmx)).setCell ⟨w.heap.size + 3, 4, none⟩ (.int .i64 nux)).setCell ⟨w.heap.size + 3, 5, none⟩ (.bool shx)).setCell ⟨w.heap.size + 3, 6, none⟩ (.slice Ax nx mx)).setCell ⟨w.heap.size + 3, 7, none⟩ (.slice Bx px qx)).setCell ⟨w.heap.size + 3, 8, none⟩ (.slice Cx rx sx)).setCell ⟨w5.heap.size, 0, none⟩ (.int .i64 Ex)).setCell ⟨w5.heap.size, 1, none⟩ (.int .i64 (Kx : Int))) := ⟨_, rfl⟩
                rw [← hw11] at HX11 HT11 HF11 HK11 ⊢
                clear hw11 hoT hoF HX10 HT10 HF10 g0 g1 fg0 fg1 q0 q1 fq0 fq1 d0 d1 fd0 fd1 z0 z1 z2 z3 z4 z5 z6 z7' z8 y0 y1 y2 y3 y4 y5 y6 y7 y8 a0 a1 a2 a3 a4 a5 a6 a7 a8 b0 b1 b2 b3 b4 b5 b6 b7 b8
                obtain ⟨⟨q0, q1⟩, fq0, fq1⟩ := HX11.out.t.cells
                obtain ⟨⟨d0, d1⟩, fd0, fd1⟩ := HX11.out.d.cells
                obtain ⟨z0, z1, z2, z3, z4, z5, z6, z7', z8⟩ := HX11.out.z.cells
                have hzf := HX11.out.z.frozen
                have y0 := hzf 0
                have y1 := hzf 1
                have y2 := hzf 2
                have y3 := hzf 3
                have y4 := hzf 4
                have y5 := hzf 5
                have y6 := hzf 6
                have y7 := hzf 7
                have y8 := hzf 8
                clear hzf
                obtain ⟨a0, a1, a2, a3, a4, a5, a6, a7, a8⟩ := HT11.out.cells
                have htf := HT11.out.frozen
                have b0 := htf 0
                have b1 := htf 1
                have b2 := htf 2
                have b3 := htf 3
                have b4 := htf 4
                have b5 := htf 5
                have b6 := htf 6
                have b7 := htf 7
                have b8 := htf 8
                clear htf
                obtain ⟨⟨g0, g1⟩, fg0, fg1⟩ := HF11.out.cells
                have hsl : Jx = (j2 : Int) ∧ Ex = 0 ∧ Kx = 0 ∧ TreeV w10 (from_ w8) tb [.int .i64 kx, .string nmx, .int .i64 nux, .bool shx, .slice Ax nx mx, .slice Bx px qx, .slice Cx rx sx] := by
                  rcases HSX.out with ⟨l, j, h7, h9, h10, h11, h12⟩ | ⟨h7, h9⟩
                  · rw [h6] at h7; cases h7; exact ⟨h9, h10, h11, h12⟩
                  · rw [h6] at h7; cases h7
                obtain ⟨rfl, rfl, rfl, htv⟩ := hsl
                have HTV := hide htv
                clear htv
                obtain ⟨p, hp⟩ : ∃ p, p = X.ps j2 := ⟨_, rfl⟩
                have HPP := hide hp
                clear hp
                go_upto_region 18 with (first
                  | (go_at_call 24; refine (rText HX11.out.l (j2)).mono ?_; rintro e w12 ⟨rfl, hb⟩; have HX12 := hide (HX11.out.below hb); have HT12 := hide (HT11.out.below hb); have HF12 := hide (HF11.out.below hb); clear HX11 HT11 HF11; clear q0 q1 fq0 fq1 d0 d1 fd0 fd1 z0 z1 z2 z3 z4 z5 z6 z7' z8 y0 y1 y2 y3 y4 y5 y6 y7 y8 a0 a1 a2 a3 a4 a5 a6 a7 a8 b0 b1 b2 b3 b4 b5 b6 b7 b8; obtain ⟨⟨q0, q1⟩, fq0, fq1⟩ := HX12.out.t.cells; obtain ⟨⟨d0, d1⟩, fd0, fd1⟩ := HX12.out.d.cells; obtain ⟨z0, z1, z2, z3, z4, z5, z6, z7', z8⟩ := HX12.out.z.cells; have hzf := HX12.out.z.frozen; have y0 := hzf 0; have y1 := hzf 1; have y2 := hzf 2; have y3 := hzf 3; have y4 := hzf 4; have y5 := hzf 5; have y6 := hzf 6; have y7 := hzf 7; have y8 := hzf 8; clear hzf; obtain ⟨a0, a1, a2, a3, a4, a5, a6, a7, a8⟩ := HT12.out.cells; have htf := HT12.out.frozen; have b0 := htf 0; have b1 := htf 1; have b2 := htf 2; have b3 := htf 3; have b4 := htf 4; have b5 := htf 5; have b6 := htf 6; have b7 := htf 7; have b8 := htf 8; clear htf; clear g0 g1 fg0 fg1; obtain ⟨⟨g0, g1⟩, fg0, fg1⟩ := HF12.out.cells; clear hb)
                  | (go_at_call 25; refine (rBad HX12.out.l j2).mono ?_; rw [← HPP.out]; rintro e w13 ⟨rfl, hb⟩; have HX13 := hide (HX12.out.below hb); have HT13 := hide (HT12.out.below hb); have HF13 := hide (HF12.out.below hb); clear g0 g1 fg0 fg1; clear q0 q1 fq0 fq1 d0 d1 fd0 fd1 z0 z1 z2 z3 z4 z5 z6 z7' z8 y0 y1 y2 y3 y4 y5 y6 y7 y8 a0 a1 a2 a3 a4 a5 a6 a7 a8 b0 b1 b2 b3 b4 b5 b6 b7 b8; obtain ⟨⟨q0, q1⟩, fq0, fq1⟩ := HX13.out.t.cells; obtain ⟨⟨d0, d1⟩, fd0, fd1⟩ := HX13.out.d.cells; obtain ⟨z0, z1, z2, z3, z4, z5, z6, z7', z8⟩ := HX13.out.z.cells; have hzf := HX13.out.z.frozen; have y0 := hzf 0; have y1 := hzf 1; have y2 := hzf 2; have y3 := hzf 3; have y4 := hzf 4; have y5 := hzf 5; have y6 := hzf 6; have y7 := hzf 7; have y8 := hzf 8; clear hzf; obtain ⟨a0, a1, a2, a3, a4, a5, a6, a7, a8⟩ := HT13.out.cells; have htf := HT13.out.frozen; have b0 := htf 0; have b1 := htf 1; have b2 := htf 2; have b3 := htf 3; have b4 := htf 4; have b5 := htf 5; have b6 := htf 6; have b7 := htf 7; have b8 := htf 8; clear htf; obtain ⟨⟨g0, g1⟩, fg0, fg1⟩ := HF13.out.cells; clear hb)
                  )
                have hoF := TwoAt.out (w := w13) (b := w5.heap.size) (.int .i64 7) (.int .i64 (p : Int))
                have HX14 := hide (HX13.out.grown hoF (by simp <;> omega) (by simp <;> omega) (by simp <;> omega) (fun g e => by cases e; omega))
                have HT14 := hide (HT13.out.grown hoF (by simp <;> omega))
                have HF14 := hide (HF13.out.put (.int .i64 7) (.int .i64 (p : Int)))
                obtain ⟨w14, hw14⟩ : ∃ w14, w14 = ((w13.setCell ⟨w5.heap.size, 0, none⟩ (.int .i64 7)).setCell ⟨w5.heap.size, 1, none⟩ (.int .i64 (p : Int))) := ⟨_, rfl⟩
                rw [← hw14] at HX14 HT14 HF14 ⊢
                clear hw14 hoF HX13 HT13 HF13 g0 g1 fg0 fg1 q0 q1 fq0 fq1 d0 d1 fd0 fd1 z0 z1 z2 z3 z4 z5 z6 z7' z8 y0 y1 y2 y3 y4 y5 y6 y7 y8 a0 a1 a2 a3 a4 a5 a6 a7 a8 b0 b1 b2 b3 b4 b5 b6 b7 b8
                obtain ⟨⟨q0, q1⟩, fq0, fq1⟩ := HX14.out.t.cells
                obtain ⟨⟨d0, d1⟩, fd0, fd1⟩ := HX14.out.d.cells
                obtain ⟨z0, z1, z2, z3, z4, z5, z6, z7', z8⟩ := HX14.out.z.cells
                have hzf := HX14.out.z.frozen
                have y0 := hzf 0
                have y1 := hzf 1
                have y2 := hzf 2
                have y3 := hzf 3
                have y4 := hzf 4
                have y5 := hzf 5
                have y6 := hzf 6
                have y7 := hzf 7
                have y8 := hzf 8
                clear hzf
                obtain ⟨a0, a1, a2, a3, a4, a5, a6, a7, a8⟩ := HT14.out.cells
                have htf := HT14.out.frozen
                have b0 := htf 0
                have b1 := htf 1
                have b2 := htf 2
                have b3 := htf 3
                have b4 := htf 4
                have b5 := htf 5
                have b6 := htf 6
                have b7 := htf 7
                have b8 := htf 8
                clear htf
                obtain ⟨⟨g0, g1⟩, fg0, fg1⟩ := HF14.out.cells
                go_region
                obtain ⟨wg, hwg, hfin⟩ := HX14.out.fin 4 (.string (X.tx (i + 1))) (.slice Ag ng mg) (.int .i64 kx) (.string nmx) (.int .i64 nux) (.bool shx) (.slice Ax nx mx) (.slice Bx px qx) (.slice Cx rx sx) (.int .i64 7) (.int .i64 (p : Int)) (by omega) (by omega) (by omega) (by omega) (by omega)
                rw [← hwg]
                replace hfin := hfin.drew
                clear hwg
                obtain ⟨wf, hwf⟩ : ∃ wf, wf = wg.drew := ⟨_, rfl⟩
                rw [← hwf] at hfin ⊢
                clear hwf
                obtain ⟨hbf, hkf, u0, u1, u2, u3, u4, u5, u6, u7, u8, v0, v1⟩ := hfin
                have HBF := hide hbf
                have HKF := hide hkf
                clear hbf hkf
                go_wp2
                refine bodyPost_ret (v := .tuple #[.agg #[.string (X.tx (i + 1)), .slice Ag ng mg, .int .i64 kx, .string nmx, .int .i64 nux, .bool shx, .slice Ax nx mx, .slice Bx px qx, .slice Cx rx sx], .int .i64 (((j2 + 1 : Nat) : Int)), .agg #[.int .i64 7, .int .i64 (p : Int)]]) (by simp [results, Tryz.results12, go_sem, u0, u1, u2, u3, u4, u5, u6, u7, u8, v0, v1]) rfl ?_
                rw [HRE.out, h6, Res.bind_ok, show mustS X (tC 59) j2 = .bad 7 (X.ps j2) from if_neg (by rw [h8]; simp), Res.bind_bad, ← HPP.out]
                exact ⟨HBF.out, by decide, _, ((j2 + 1 : Nat) : Int), rfl, _, _, _, _, _, _, _, _, _, _, _, _, _, _, _, _, _, rfl⟩
              | true =>
                go_enter Tryz.func12, Tryz.ntmps12
                go_upto_region 7 with (first
                  | (go_at_call 24; refine (rText HX0.out.l (i)).mono ?_; rintro e w1 ⟨rfl, hb⟩; have HX1 := hide (HX0.out.below hb); have HT1 := hide (HT0.out.below hb); clear HX0 HT0; clear q0 q1 fq0 fq1 d0 d1 fd0 fd1 z0 z1 z2 z3 z4 z5 z6 z7' z8 y0 y1 y2 y3 y4 y5 y6 y7 y8 a0 a1 a2 a3 a4 a5 a6 a7 a8 b0 b1 b2 b3 b4 b5 b6 b7 b8; obtain ⟨⟨q0, q1⟩, fq0, fq1⟩ := HX1.out.t.cells; obtain ⟨⟨d0, d1⟩, fd0, fd1⟩ := HX1.out.d.cells; obtain ⟨z0, z1, z2, z3, z4, z5, z6, z7', z8⟩ := HX1.out.z.cells; have hzf := HX1.out.z.frozen; have y0 := hzf 0; have y1 := hzf 1; have y2 := hzf 2; have y3 := hzf 3; have y4 := hzf 4; have y5 := hzf 5; have y6 := hzf 6; have y7 := hzf 7; have y8 := hzf 8; clear hzf; obtain ⟨a0, a1, a2, a3, a4, a5, a6, a7, a8⟩ := HT1.out.cells; have htf := HT1.out.frozen; have b0 := htf 0; have b1 := htf 1; have b2 := htf 2; have b3 := htf 3; have b4 := htf 4; have b5 := htf 5; have b6 := htf 6; have b7 := htf 7; have b8 := htf 8; clear htf; clear hb)
                  | (go_at_call 24; refine (rText HX1.out.l (i + 1)).mono ?_; rintro e w2 ⟨rfl, hb⟩; have HX2 := hide (HX1.out.below hb); have HT2 := hide (HT1.out.below hb); clear HX1 HT1; clear q0 q1 fq0 fq1 d0 d1 fd0 fd1 z0 z1 z2 z3 z4 z5 z6 z7' z8 y0 y1 y2 y3 y4 y5 y6 y7 y8 a0 a1 a2 a3 a4 a5 a6 a7 a8 b0 b1 b2 b3 b4 b5 b6 b7 b8; obtain ⟨⟨q0, q1⟩, fq0, fq1⟩ := HX2.out.t.cells; obtain ⟨⟨d0, d1⟩, fd0, fd1⟩ := HX2.out.d.cells; obtain ⟨z0, z1, z2, z3, z4, z5, z6, z7', z8⟩ := HX2.out.z.cells; have hzf := HX2.out.z.frozen; have y0 := hzf 0; have y1 := hzf 1; have y2 := hzf 2; have y3 := hzf 3; have y4 := hzf 4; have y5 := hzf 5; have y6 := hzf 6; have y7 := hzf 7; have y8 := hzf 8; clear hzf; obtain ⟨a0, a1, a2, a3, a4, a5, a6, a7, a8⟩ := HT2.out.cells; have htf := HT2.out.frozen; have b0 := htf 0; have b1 := htf 1; have b2 := htf 2; have b3 := htf 3; have b4 := htf 4; have b5 := htf 5; have b6 := htf 6; have b7 := htf 7; have b8 := htf 8; clear htf; clear hb)
                  | (go_at_call 26; refine (rIsName (X.tx (i + 1)) _ (HSM.out _)).mono ?_; rw [h2]; rintro e w' ⟨rfl, hw'⟩; obtain rfl := hw'.symm; clear hw')
                  | (go_at_call 24; refine (rText HX2.out.l (i + 1)).mono ?_; rintro e w3 ⟨rfl, hb⟩; have HX3 := hide (HX2.out.below hb); have HT3 := hide (HT2.out.below hb); clear HX2 HT2; clear q0 q1 fq0 fq1 d0 d1 fd0 fd1 z0 z1 z2 z3 z4 z5 z6 z7' z8 y0 y1 y2 y3 y4 y5 y6 y7 y8 a0 a1 a2 a3 a4 a5 a6 a7 a8 b0 b1 b2 b3 b4 b5 b6 b7 b8; obtain ⟨⟨q0, q1⟩, fq0, fq1⟩ := HX3.out.t.cells; obtain ⟨⟨d0, d1⟩, fd0, fd1⟩ := HX3.out.d.cells; obtain ⟨z0, z1, z2, z3, z4, z5, z6, z7', z8⟩ := HX3.out.z.cells; have hzf := HX3.out.z.frozen; have y0 := hzf 0; have y1 := hzf 1; have y2 := hzf 2; have y3 := hzf 3; have y4 := hzf 4; have y5 := hzf 5; have y6 := hzf 6; have y7 := hzf 7; have y8 := hzf 8; clear hzf; obtain ⟨a0, a1, a2, a3, a4, a5, a6, a7, a8⟩ := HT3.out.cells; have htf := HT3.out.frozen; have b0 := htf 0; have b1 := htf 1; have b2 := htf 2; have b3 := htf 3; have b4 := htf 4; have b5 := htf 5; have b6 := htf 6; have b7 := htf 7; have b8 := htf 8; clear htf; clear hb)
                  )
                have hoT := set_out w3 (w.heap.size + 3) 0 (.string (X.tx (i + 1)))
                have HX4 := hide (HX3.out.grown hoT (by simp <;> omega) (by simp <;> omega) (by simp <;> omega) (fun g e => by cases e; omega))
                have HT4 := hide (HT3.out.set0 (.string (X.tx (i + 1))))
                obtain ⟨w4, hw4⟩ : ∃ w4, w4 = (w3.setCell ⟨w.heap.size + 3, 0, none⟩ (.string (X.tx (i + 1)))) := ⟨_, rfl⟩
                rw [← hw4] at HX4 HT4 ⊢
                clear hw4 hoT HX3 HT3
                clear q0 q1 fq0 fq1 d0 d1 fd0 fd1 z0 z1 z2 z3 z4 z5 z6 z7' z8 y0 y1 y2 y3 y4 y5 y6 y7 y8 a0 a1 a2 a3 a4 a5 a6 a7 a8 b0 b1 b2 b3 b4 b5 b6 b7 b8
                obtain ⟨⟨q0, q1⟩, fq0, fq1⟩ := HX4.out.t.cells
                obtain ⟨⟨d0, d1⟩, fd0, fd1⟩ := HX4.out.d.cells
                obtain ⟨z0, z1, z2, z3, z4, z5, z6, z7', z8⟩ := HX4.out.z.cells
                have hzf := HX4.out.z.frozen
                have y0 := hzf 0
                have y1 := hzf 1
                have y2 := hzf 2
                have y3 := hzf 3
                have y4 := hzf 4
                have y5 := hzf 5
                have y6 := hzf 6
                have y7 := hzf 7
                have y8 := hzf 8
                clear hzf
                obtain ⟨a0, a1, a2, a3, a4, a5, a6, a7, a8⟩ := HT4.out.cells
                have htf := HT4.out.frozen
                have b0 := htf 0
                have b1 := htf 1
                have b2 := htf 2
                have b3 := htf 3
                have b4 := htf 4
                have b5 := htf 5
                have b6 := htf 6
                have b7 := htf 7
                have b8 := htf 8
                clear htf
                go_upto_region 11 with (first
                  | (go_at_call 24; refine (rText HX4.out.l (i + 2)).mono ?_; rintro e w5 ⟨rfl, hb⟩; have HX5 := hide (HX4.out.below hb); have HT5 := hide (HT4.out.below hb); clear HX4 HT4; clear q0 q1 fq0 fq1 d0 d1 fd0 fd1 z0 z1 z2 z3 z4 z5 z6 z7' z8 y0 y1 y2 y3 y4 y5 y6 y7 y8 a0 a1 a2 a3 a4 a5 a6 a7 a8 b0 b1 b2 b3 b4 b5 b6 b7 b8; obtain ⟨⟨q0, q1⟩, fq0, fq1⟩ := HX5.out.t.cells; obtain ⟨⟨d0, d1⟩, fd0, fd1⟩ := HX5.out.d.cells; obtain ⟨z0, z1, z2, z3, z4, z5, z6, z7', z8⟩ := HX5.out.z.cells; have hzf := HX5.out.z.frozen; have y0 := hzf 0; have y1 := hzf 1; have y2 := hzf 2; have y3 := hzf 3; have y4 := hzf 4; have y5 := hzf 5; have y6 := hzf 6; have y7 := hzf 7; have y8 := hzf 8; clear hzf; obtain ⟨a0, a1, a2, a3, a4, a5, a6, a7, a8⟩ := HT5.out.cells; have htf := HT5.out.frozen; have b0 := htf 0; have b1 := htf 1; have b2 := htf 2; have b3 := htf 3; have b4 := htf 4; have b5 := htf 5; have b6 := htf 6; have b7 := htf 7; have b8 := htf 8; clear htf; have hs5 := HX5.out.d.lt; have ht5 := HT5.out.lt; obtain ⟨⟨q2, q3⟩, _, _⟩ := (HX5.out.alloc (.cells #[.int .i64 0, .int .i64 0] 25)).t.cells; clear hb)
                  | (go_at_call 27; refine (rGiven HOK.out (HX5.out.alloc (.cells #[.int .i64 0, .int .i64 0] 25)).l (i + 3) (by omega)).mono ?_; intro e w6 hr; obtain ⟨hb, Ag, ng, mg, Eg, Kg, Jg, rfl, hst⟩ := hr.anyG; have HST := hide hst; have HX6 := hide ((HX5.out.alloc (.cells #[.int .i64 0, .int .i64 0] 25)).below hb); have HT6 := hide ((HT5.out.alloc (.cells #[.int .i64 0, .int .i64 0] 25)).below hb); have HF6 : Hid (TwoAt 25 w6 w5.heap.size (.int .i64 0) (.int .i64 0)) := (TwoAt.new 25 w5 (.int .i64 0) (.int .i64 0)).below hb; have hs6 : w5.heap.size < w6.heap.size := (by have := hb.size; simp at this; omega); clear q2 q3 HX5 HT5; clear q0 q1 fq0 fq1 d0 d1 fd0 fd1 z0 z1 z2 z3 z4 z5 z6 z7' z8 y0 y1 y2 y3 y4 y5 y6 y7 y8 a0 a1 a2 a3 a4 a5 a6 a7 a8 b0 b1 b2 b3 b4 b5 b6 b7 b8; obtain ⟨⟨q0, q1⟩, fq0, fq1⟩ := HX6.out.t.cells; obtain ⟨⟨d0, d1⟩, fd0, fd1⟩ := HX6.out.d.cells; obtain ⟨z0, z1, z2, z3, z4, z5, z6, z7', z8⟩ := HX6.out.z.cells; have hzf := HX6.out.z.frozen; have y0 := hzf 0; have y1 := hzf 1; have y2 := hzf 2; have y3 := hzf 3; have y4 := hzf 4; have y5 := hzf 5; have y6 := hzf 6; have y7 := hzf 7; have y8 := hzf 8; clear hzf; obtain ⟨a0, a1, a2, a3, a4, a5, a6, a7, a8⟩ := HT6.out.cells; have htf := HT6.out.frozen; have b0 := htf 0; have b1 := htf 1; have b2 := htf 2; have b3 := htf 3; have b4 := htf 4; have b5 := htf 5; have b6 := htf 6; have b7 := htf 7; have b8 := htf 8; clear htf; obtain ⟨⟨g0, g1⟩, fg0, fg1⟩ := HF6.out.cells; clear hb hr hst)
                  )
                have hoT := set_out w6 (w.heap.size + 3) 1 (.slice Ag ng mg)
                have hoF := TwoAt.out (w := (w6.setCell ⟨w.heap.size + 3, 1, none⟩ (.slice Ag ng mg))) (b := w5.heap.size) (.int .i64 Eg) (.int .i64 (Kg : Int))
                have HX7 := hide ((HX6.out.grown hoT (by simp <;> omega) (by simp <;> omega) (by simp <;> omega) (fun g e => by cases e; omega)).grown hoF (by simp <;> omega) (by simp <;> omega) (by simp <;> omega) (fun g e => by cases e; omega))
                have HT7 := hide ((HT6.out.set1 (.slice Ag ng mg)).grown hoF (by simp <;> omega))
                have HF7 := hide ((HF6.out.grown hoT (by simp <;> omega)).put (.int .i64 Eg) (.int .i64 (Kg : Int)))
                have HK7 : Hid (Keep (fun b => w5.heap.size < b) w6 (((w6.setCell ⟨w.heap.size + 3, 1, none⟩ (.slice Ag ng mg)).setCell ⟨w5.heap.size, 0, none⟩ (.int .i64 Eg)).setCell ⟨w5.heap.size, 1, none⟩ (.int .i64 (Kg : Int)))) := (Keep.of_grown hoT (fun b hb _ => by simp <;> omega)).trans (Keep.of_grown hoF (fun b hb _ => by simp <;> omega))
                have hs7 : w6.heap.size ≤ (((w6.setCell ⟨w.heap.size + 3, 1, none⟩ (.slice Ag ng mg)).setCell ⟨w5.heap.size, 0, none⟩ (.int .i64 Eg)).setCell ⟨w5.heap.size, 1, none⟩ (.int .i64 (Kg : Int))).heap.size := Nat.le_trans hoT.size hoF.size
                obtain ⟨w7, hw7⟩ : ∃ w7, w7 = (((w6.setCell ⟨w.heap.size + 3, 1, none⟩ (.slice Ag ng mg)).setCell ⟨w5.heap.size, 0, none⟩ (.int .i64 Eg)).setCell ⟨w5.heap.size, 1, none⟩ (.int .i64 (Kg : Int))) := ⟨_, rfl⟩
                rw [← hw7] at HX7 HT7 HF7 HK7 hs7 ⊢
                clear hw7 hoT hoF HX6 HT6 HF6 g0 g1 fg0 fg1 q0 q1 fq0 fq1 d0 d1 fd0 fd1 z0 z1 z2 z3 z4 z5 z6 z7' z8 y0 y1 y2 y3 y4 y5 y6 y7 y8 a0 a1 a2 a3 a4 a5 a6 a7 a8 b0 b1 b2 b3 b4 b5 b6 b7 b8
                obtain ⟨⟨q0, q1⟩, fq0, fq1⟩ := HX7.out.t.cells
                obtain ⟨⟨d0, d1⟩, fd0, fd1⟩ := HX7.out.d.cells
                obtain ⟨z0, z1, z2, z3, z4, z5, z6, z7', z8⟩ := HX7.out.z.cells
                have hzf := HX7.out.z.frozen
                have y0 := hzf 0
                have y1 := hzf 1
                have y2 := hzf 2
                have y3 := hzf 3
                have y4 := hzf 4
                have y5 := hzf 5
                have y6 := hzf 6
                have y7 := hzf 7
                have y8 := hzf 8
                clear hzf
                obtain ⟨a0, a1, a2, a3, a4, a5, a6, a7, a8⟩ := HT7.out.cells
                have htf := HT7.out.frozen
                have b0 := htf 0
                have b1 := htf 1
                have b2 := htf 2
                have b3 := htf 3
                have b4 := htf 4
                have b5 := htf 5
                have b6 := htf 6
                have b7 := htf 7
                have b8 := htf 8
                clear htf
                obtain ⟨⟨g0, g1⟩, fg0, fg1⟩ := HF7.out.cells
                have hsl : Jg = (j : Int) ∧ Eg = 0 ∧ Kg = 0 ∧ ng = gs.length ∧ SliceV GivenV w6 (from_ (w5.alloc (.cells #[.int .i64 0, .int .i64 0] 25))) gs (.slice Ag ng mg) := by
                  rcases HST.out with ⟨l, j, h5, h6, h7, h8, h9, h10⟩ | ⟨h5, h6⟩
                  · rw [h4] at h5; cases h5; exact ⟨h6, h7, h8, h9, h10⟩
                  · rw [h4] at h5; cases h5
                obtain ⟨rfl, rfl, rfl, hng, hsv⟩ := hsl
                have HNG := hide hng
                have HSV := hide (GivenV.stays.slice (GivenV.stays.slice_weaken (S' := fun b => w5.heap.size < b) hsv (fun b hl hb => by have h9 : (w5.alloc (.cells #[.int .i64 0, .int .i64 0] 25)).heap.size ≤ b := hb; simp at h9; omega)) HK7.out)
                clear hsv hng
                go_upto_region 16 with (first
                  | (go_at_call 24; refine (rText HX7.out.l (j)).mono ?_; rintro e w8 ⟨rfl, hb⟩; have HX8 := hide (HX7.out.below hb); have HT8 := hide (HT7.out.below hb); have HF8 := hide (HF7.out.below hb); clear HX7 HT7 HF7; clear q0 q1 fq0 fq1 d0 d1 fd0 fd1 z0 z1 z2 z3 z4 z5 z6 z7' z8 y0 y1 y2 y3 y4 y5 y6 y7 y8 a0 a1 a2 a3 a4 a5 a6 a7 a8 b0 b1 b2 b3 b4 b5 b6 b7 b8; obtain ⟨⟨q0, q1⟩, fq0, fq1⟩ := HX8.out.t.cells; obtain ⟨⟨d0, d1⟩, fd0, fd1⟩ := HX8.out.d.cells; obtain ⟨z0, z1, z2, z3, z4, z5, z6, z7', z8⟩ := HX8.out.z.cells; have hzf := HX8.out.z.frozen; have y0 := hzf 0; have y1 := hzf 1; have y2 := hzf 2; have y3 := hzf 3; have y4 := hzf 4; have y5 := hzf 5; have y6 := hzf 6; have y7 := hzf 7; have y8 := hzf 8; clear hzf; obtain ⟨a0, a1, a2, a3, a4, a5, a6, a7, a8⟩ := HT8.out.cells; have htf := HT8.out.frozen; have b0 := htf 0; have b1 := htf 1; have b2 := htf 2; have b3 := htf 3; have b4 := htf 4; have b5 := htf 5; have b6 := htf 6; have b7 := htf 7; have b8 := htf 8; clear htf; have hs8 : w7.heap.size ≤ w8.heap.size := hb.size; have HS8 := hide (GivenV.stays.slice HSV.out (Keep.of_below hb)); clear g0 g1 fg0 fg1; obtain ⟨⟨g0, g1⟩, fg0, fg1⟩ := HF8.out.cells; clear hb)
                  | (go_at_call 28; refine (HE.out w8 (j + 1) HX8.out.l (by omega)).mono ?_; intro e w10 hr; obtain ⟨hb, kx, nmx, nux, shx, Ax, nx, mx, Bx, px, qx, Cx, rx, sx, Ex, Kx, Jx, rfl, hst⟩ := hr.any; have HSX := hide hst; have HX10 := hide (HX8.out.below hb); have HT10 := hide (HT8.out.below hb); have HF10 := hide (HF8.out.below hb); have hs10 : w8.heap.size ≤ w10.heap.size := hb.size; have HS10 := hide (GivenV.stays.slice HS8.out (Keep.of_below hb)); clear HX8 HT8 HF8 HS8; clear g0 g1 fg0 fg1; clear q0 q1 fq0 fq1 d0 d1 fd0 fd1 z0 z1 z2 z3 z4 z5 z6 z7' z8 y0 y1 y2 y3 y4 y5 y6 y7 y8 a0 a1 a2 a3 a4 a5 a6 a7 a8 b0 b1 b2 b3 b4 b5 b6 b7 b8; obtain ⟨⟨q0, q1⟩, fq0, fq1⟩ := HX10.out.t.cells; obtain ⟨⟨d0, d1⟩, fd0, fd1⟩ := HX10.out.d.cells; obtain ⟨z0, z1, z2, z3, z4, z5, z6, z7', z8⟩ := HX10.out.z.cells; have hzf := HX10.out.z.frozen; have y0 := hzf 0; have y1 := hzf 1; have y2 := hzf 2; have y3 := hzf 3; have y4 := hzf 4; have y5 := hzf 5; have y6 := hzf 6; have y7 := hzf 7; have y8 := hzf 8; clear hzf; obtain ⟨a0, a1, a2, a3, a4, a5, a6, a7, a8⟩ := HT10.out.cells; have htf := HT10.out.frozen; have b0 := htf 0; have b1 := htf 1; have b2 := htf 2; have b3 := htf 3; have b4 := htf 4; have b5 := htf 5; have b6 := htf 6; have b7 := htf 7; have b8 := htf 8; clear htf; obtain ⟨⟨g0, g1⟩, fg0, fg1⟩ := HF10.out.cells; clear hb hr hst)
                  )
                have hoT := NinAt.body_out w10 (w.heap.size + 3) (.int .i64 kx) (.string nmx) (.int .i64 nux) (.bool shx) (.slice Ax nx mx) (.slice Bx px qx) (.slice Cx rx sx)
                have hoF := TwoAt.out (w := (((((((w10.setCell ⟨w.heap.size + 3, 2, none⟩ (.int .i64 kx)).setCell ⟨w.heap.size + 3, 3, none⟩ (.string nmx)).setCell ⟨w.heap.size + 3, 4, none⟩ (.int .i64 nux)).setCell ⟨w.heap.size + 3, 5, none⟩ (.bool shx)).setCell ⟨w.heap.size + 3, 6, none⟩ (.slice Ax nx mx)).setCell ⟨w.heap.size + 3, 7, none⟩ (.slice Bx px qx)).setCell ⟨w.heap.size + 3, 8, none⟩ (.slice Cx rx sx))) (b := w5.heap.size) (.int .i64 Ex) (.int .i64 (Kx : Int))
                have HX11 := hide ((HX10.out.grown hoT (by simp <;> omega) (by simp <;> omega) (by simp <;> omega) (fun g e => by cases e; omega)).grown hoF (by simp <;> omega) (by simp <;> omega) (by simp <;> omega) (fun g e => by cases e; omega))
                have HT11 := hide ((HT10.out.body (.int .i64 kx) (.string nmx) (.int .i64 nux) (.bool shx) (.slice Ax nx mx) (.slice Bx px qx) (.slice Cx rx sx)).grown hoF (by simp <;> omega))
                have HF11 := hide ((HF10.out.grown hoT (by simp <;> omega)).put (.int .i64 Ex) (.int .i64 (Kx : Int)))
                have HK11 : Hid (Keep (fun b => w5.heap.size < b) w10 (((((((((w10.setCell ⟨w.heap.size + 3, 2, none⟩ (.int .i64 kx)).setCell ⟨w.heap.size + 3, 3, none⟩ (.string nmx)).setCell ⟨w.heap.size + 3, 4, none⟩ (.int .i64 nux)).setCell ⟨w.heap.size + 3, 5, none⟩ (.bool shx)).setCell ⟨w.heap.size + 3, 6, none⟩ (.slice Ax nx mx)).setCell ⟨w.heap.size + 3, 7, none⟩ (.slice Bx px qx)).setCell ⟨w.heap.size + 3, 8, none⟩ (.slice Cx rx sx)).setCell ⟨w5.heap.size, 0, none⟩ (.int .i64 Ex)).setCell ⟨w5.heap.size, 1, none⟩ (.int .i64 (Kx : Int)))) := (Keep.of_grown hoT (fun b hb _ => by simp <;> omega)).trans (Keep.of_grown hoF (fun b hb _ => by simp <;> omega))
                obtain ⟨w11, hw11⟩ : ∃ w11, w11 = (((((((((w10.setCell ⟨w.heap.size + 3, 2, none⟩ (.int .i64 kx)).setCell ⟨w.heap.size + 3, 3, none⟩ (.string nmx)).setCell ⟨w.heap.size + 3, 4, none⟩ (.int .i64 nux)).setCell ⟨w.heap.size + 3, 5, none⟩ (.bool shx)).setCell ⟨w.heap.size + 3, 6, none⟩ (.slice Ax nx mx)).setCell ⟨w.heap.size + 3, 7, none⟩ (.slice Bx px qx)).setCell ⟨w.heap.size + 3, 8, none⟩ (.slice Cx rx sx)).setCell ⟨w5.heap.size, 0, none⟩ (.int .i64 Ex)).setCell ⟨w5.heap.size, 1, none⟩ (.int .i64 (Kx : Int))) := ⟨_, rfl⟩
                rw [← hw11] at HX11 HT11 HF11 HK11 ⊢
                clear hw11 hoT hoF HX10 HT10 HF10 g0 g1 fg0 fg1 q0 q1 fq0 fq1 d0 d1 fd0 fd1 z0 z1 z2 z3 z4 z5 z6 z7' z8 y0 y1 y2 y3 y4 y5 y6 y7 y8 a0 a1 a2 a3 a4 a5 a6 a7 a8 b0 b1 b2 b3 b4 b5 b6 b7 b8
                obtain ⟨⟨q0, q1⟩, fq0, fq1⟩ := HX11.out.t.cells
                obtain ⟨⟨d0, d1⟩, fd0, fd1⟩ := HX11.out.d.cells
                obtain ⟨z0, z1, z2, z3, z4, z5, z6, z7', z8⟩ := HX11.out.z.cells
                have hzf := HX11.out.z.frozen
                have y0 := hzf 0
                have y1 := hzf 1
                have y2 := hzf 2
                have y3 := hzf 3
                have y4 := hzf 4
                have y5 := hzf 5
                have y6 := hzf 6
                have y7 := hzf 7
                have y8 := hzf 8
                clear hzf
                obtain ⟨a0, a1, a2, a3, a4, a5, a6, a7, a8⟩ := HT11.out.cells
                have htf := HT11.out.frozen
                have b0 := htf 0
                have b1 := htf 1
                have b2 := htf 2
                have b3 := htf 3
                have b4 := htf 4
                have b5 := htf 5
                have b6 := htf 6
                have b7 := htf 7
                have b8 := htf 8
                clear htf
                obtain ⟨⟨g0, g1⟩, fg0, fg1⟩ := HF11.out.cells
                have hsl : Jx = (j2 : Int) ∧ Ex = 0 ∧ Kx = 0 ∧ TreeV w10 (from_ w8) tb [.int .i64 kx, .string nmx, .int .i64 nux, .bool shx, .slice Ax nx mx, .slice Bx px qx, .slice Cx rx sx] := by
                  rcases HSX.out with ⟨l, j, h7, h9, h10, h11, h12⟩ | ⟨h7, h9⟩
                  · rw [h6] at h7; cases h7; exact ⟨h9, h10, h11, h12⟩
                  · rw [h6] at h7; cases h7
                obtain ⟨rfl, rfl, rfl, htv⟩ := hsl
                have HTV := hide htv
                clear htv
                go_wp2_with (first
                  | (go_at_call 24; refine (rText HX11.out.l (j2)).mono ?_; rintro e w12 ⟨rfl, hb⟩; have HX12 := hide (HX11.out.below hb); have HT12 := hide (HT11.out.below hb); have HF12 := hide (HF11.out.below hb); clear HX11 HT11 HF11; clear q0 q1 fq0 fq1 d0 d1 fd0 fd1 z0 z1 z2 z3 z4 z5 z6 z7' z8 y0 y1 y2 y3 y4 y5 y6 y7 y8 a0 a1 a2 a3 a4 a5 a6 a7 a8 b0 b1 b2 b3 b4 b5 b6 b7 b8; obtain ⟨⟨q0, q1⟩, fq0, fq1⟩ := HX12.out.t.cells; obtain ⟨⟨d0, d1⟩, fd0, fd1⟩ := HX12.out.d.cells; obtain ⟨z0, z1, z2, z3, z4, z5, z6, z7', z8⟩ := HX12.out.z.cells; have hzf := HX12.out.z.frozen; have y0 := hzf 0; have y1 := hzf 1; have y2 := hzf 2; have y3 := hzf 3; have y4 := hzf 4; have y5 := hzf 5; have y6 := hzf 6; have y7 := hzf 7; have y8 := hzf 8; clear hzf; obtain ⟨a0, a1, a2, a3, a4, a5, a6, a7, a8⟩ := HT12.out.cells; have htf := HT12.out.frozen; have b0 := htf 0; have b1 := htf 1; have b2 := htf 2; have b3 := htf 3; have b4 := htf 4; have b5 := htf 5; have b6 := htf 6; have b7 := htf 7; have b8 := htf 8; clear htf; have HB12 := hide hb; clear g0 g1 fg0 fg1; obtain ⟨⟨g0, g1⟩, fg0, fg1⟩ := HF12.out.cells; clear hb)
                  )
                go_region
                obtain ⟨wg, hwg, hfin⟩ := HX12.out.fin 4 (.string (X.tx (i + 1))) (.slice Ag ng mg) (.int .i64 kx) (.string nmx) (.int .i64 nux) (.bool shx) (.slice Ax nx mx) (.slice Bx px qx) (.slice Cx rx sx) (.int .i64 0) (.int .i64 0) (by omega) (by omega) (by omega) (by omega) (by omega)
                rw [← hwg]
                replace hfin := hfin.drew
                clear hwg
                obtain ⟨wf, hwf⟩ : ∃ wf, wf = wg.drew := ⟨_, rfl⟩
                rw [← hwf] at hfin ⊢
                clear hwf
                obtain ⟨hbf, hkf, u0, u1, u2, u3, u4, u5, u6, u7, u8, v0, v1⟩ := hfin
                have HBF := hide hbf
                have HKF := hide hkf
                clear hbf hkf
                go_wp2
                refine bodyPost_ret (v := .tuple #[.agg #[.string (X.tx (i + 1)), .slice Ag ng mg, .int .i64 kx, .string nmx, .int .i64 nux, .bool shx, .slice Ax nx mx, .slice Bx px qx, .slice Cx rx sx], .int .i64 (((j2 + 1 : Nat) : Int)), .agg #[.int .i64 0, .int .i64 0]]) (by simp [results, Tryz.results12, go_sem, u0, u1, u2, u3, u4, u5, u6, u7, u8, v0, v1]) rfl ?_
                have hng := HNG.out
                subst hng
                rw [HRE.out, h6, Res.bind_ok, show mustS X (tC 59) j2 = .ok () (j2 + 1) from if_pos h8, Res.bind_ok]
                have hk : Keep (fun b => w5.heap.size < b) w10 wf := (HK11.out.trans (Keep.of_below HB12.out)).trans ⟨HKF.out.1, fun b hb hl => HKF.out.2 b (by have hb' : w5.heap.size < b := hb; unfold V.far; omega) hl⟩
                refine ⟨HBF.out, _, rfl, Ag, mg, _, _, _, _, _, _, _, _, _, _, _, _, _, rfl, ?_, ?_⟩
                · exact GivenV.stays.slice_weaken (GivenV.stays.slice HS10.out hk) (fun b _ hb => by have h9 : w5.heap.size < b := hb; unfold from_; omega)
                · exact TreeV.stays.weaken (TreeV.stays.keep (TreeV.stays.weaken (S' := fun b => w5.heap.size < b) HTV.out (fun b hl hb => by have h9 : w8.heap.size ≤ b := hb; omega)) hk) (fun b _ hb => by have h9 : w5.heap.size < b := hb; unfold from_; omega)
end Go.Proofs.YtadhlnlcdljamaaGreatDoor.V
