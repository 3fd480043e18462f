/-
  The reader: expr.
-/
import Derived.Test.YtadhlnlcdljamaaGreatDoorTxFactor
namespace Go.Proofs.YtadhlnlcdljamaaGreatDoor.V
set_option maxRecDepth 20000
open Go.RowKit

set_option maxRecDepth 100000 in
set_option maxHeartbeats 2000000 in
theorem tExpr_deep {X : Tks} {R G c : Nat} {w : World} {i : Nat} (h : RdAt X R G c w i) : Calls Tryz.prog 43 #[.pointer (some ⟨R, 0, none⟩), .int .i64 65] w (Parsed X R G c (repT w) (.bad 5 (X.ps i)) w) := by
  have HR0 := hide (h.alloc (.cells z7 47))
  have HF0 := hide (World.grownBy_alloc w (.cells z7 47) (some R))
  clear h
  unfold Parsed thrown faultV
  go_enter Tryz.func43, Tryz.ntmps43
  go_wp2_with (go_at_call 52; refine (tBad HR0.out 5).mono ?_; unfold thrown faultV; rintro e w5 ⟨rfl, hb5⟩; have HB5 := hide hb5; clear hb5)
  exact ⟨rfl, HF0.out.then' (HB5.out.by _), rfl⟩

set_option maxRecDepth 100000 in
set_option maxHeartbeats 8000000 in
theorem tExpr_step {X : Tks} {R G c L : Nat} {w : World} {i : Nat} (ok : X.Ok) (E : Nat → Res Tr) (h : RdAt X R G c w i) (hL : L ≤ 64)
    (hE : ∀ W j, RdAt X R G c W j → Calls Tryz.prog 43 #[.pointer (some ⟨R, 0, none⟩), .int .i64 ((L : Int) + 1)] W (Parsed X R G c (repT W) (E j) W))
    (hS : ∀ W j, RdAt X R G c W j → Calls Tryz.prog 58 #[.pointer (some ⟨R, 0, none⟩), .int .i64 (L : Int)] W (Parsed X R G c (repT W) (chainS X (chainS X (factorS X E) isMulB) isSumB j) W)) :
    Calls Tryz.prog 43 #[.pointer (some ⟨R, 0, none⟩), .int .i64 (L : Int)] w (Parsed X R G c (repT w)
      (if ((X.tx i).toList == tLet) = true then boundS X E 5 0 tIn (i + 1) else if ((X.tx i).toList == tRepeat) = true then (numS X (i + 1)).bind fun n j => boundS X E 6 n tWith j else chainS X (chainS X (factorS X E) isMulB) isSumB i) w) := by
  have HOK := hide ok
  have HRR := hide h.ltR
  have HGG := hide h.lt
  have HEX := hide hE
  have HSX := hide hS
  have hlv : ¬ (64 : Int) < (L : Int) := by omega
  have HD0 : Hid (SevZ (w.alloc (.cells z7 47)) w.heap.size) := SevAt.new w _ _ _ _ _ _ _
  have HR0 := hide (h.alloc (.cells z7 47))
  have HF0 := hide (World.grownBy_alloc w (.cells z7 47) (some R))
  clear h ok hE hS
  cases hb : ((X.tx i).toList == tLet) with
  | true =>
    rw [if_pos rfl]
    cases h7 : boundS X E 5 0 tIn (i + 1) with
    | bad T k =>
      unfold Parsed thrown faultV
      go_enter Tryz.func43, Tryz.ntmps43
      go_wp2_with (first
        | (go_at_call_of 51 (Value.string { data := #[108, 101, 116] }); refine (tMay_yes HR0.out ⟨#[108, 101, 116]⟩ [108, 101, 116] (by simp) (by simp) hb).mono ?_; rintro e w1 ⟨rfl, hg, hr⟩; have HF1 := hide (HF0.out.then' hg); have HR1 := hide hr; have HD1 := hide (HD0.out.grown hg (by have := HRR.out; simp; omega)); clear hg hr)
        | (go_at_call 56; refine (tNamed HOK.out E 5 0 ⟨#[105, 110]⟩ tIn (by simp) (by simp) HR1.out hL HEX.out).mono ?_; rw [h7]; unfold Parsed thrown faultV; rintro e wb ⟨hg, rfl⟩; have HFb := hide (HF1.out.then' hg); clear hg)
        )
      exact ⟨rfl, HFb.out, rfl⟩
    | ok t j7 =>
      go_enter Tryz.func43, Tryz.ntmps43
      go_wp2_with (first
        | (go_at_call_of 51 (Value.string { data := #[108, 101, 116] }); refine (tMay_yes HR0.out ⟨#[108, 101, 116]⟩ [108, 101, 116] (by simp) (by simp) hb).mono ?_; rintro e w1 ⟨rfl, hg, hr⟩; have HF1 := hide (HF0.out.then' hg); have HR1 := hide hr; have HD1 := hide (HD0.out.grown hg (by have := HRR.out; simp; omega)); clear hg hr)
        | (go_at_call 56; refine (tNamed HOK.out E 5 0 ⟨#[105, 110]⟩ tIn (by simp) (by simp) HR1.out hL HEX.out).mono ?_; rw [h7]; rintro e w7 ⟨hg, hr, v, rfl, k, nm, nu, sh, B, n1, m1, B', n1', m1', B'', n1'', m1'', rfl, htr⟩; have HF7 := hide (HF1.out.then' hg); have HR7 := hide hr; have HD7 := hide (HD1.out.grown hg (by have := HRR.out; simp; omega)); have HT7 := hide htr; obtain ⟨f0, f1, f2, f3, f4, f5, f6⟩ := HD7.out.frozen; obtain ⟨p0, p1, p2, p3, p4, p5, p6⟩ := HD7.out.cells; clear hg hr htr)
        )
      have HJ := hide ((HD7.out).put (.int .i64 k) (.string nm) (.int .i64 nu) (.bool sh) (.slice B n1 m1) (.slice B' n1' m1') (.slice B'' n1'' m1''))
      have HO := hide (SevAt.out w7 (w.heap.size) (.int .i64 k) (.string nm) (.int .i64 nu) (.bool sh) (.slice B n1 m1) (.slice B' n1' m1') (.slice B'' n1'' m1''))
      obtain ⟨u0, u1, u2, u3, u4, u5, u6⟩ := HJ.out.cells
      obtain ⟨wf, hwf⟩ : ∃ wf, wf = (((((((w7.setCell ⟨w.heap.size, 0, none⟩ (.int .i64 k)).setCell ⟨w.heap.size, 1, none⟩ (.string nm)).setCell ⟨w.heap.size, 2, none⟩ (.int .i64 nu)).setCell ⟨w.heap.size, 3, none⟩ (.bool sh)).setCell ⟨w.heap.size, 4, none⟩ (.slice B n1 m1)).setCell ⟨w.heap.size, 5, none⟩ (.slice B' n1' m1')).setCell ⟨w.heap.size, 6, none⟩ (.slice B'' n1'' m1'')) := ⟨_, rfl⟩
      rw [← hwf] at HO u0 u1 u2 u3 u4 u5 u6 ⊢
      clear hwf HJ
      refine bodyPost_ret (v := .agg #[.int .i64 k, .string nm, .int .i64 nu, .bool sh, .slice B n1 m1, .slice B' n1' m1', .slice B'' n1'' m1'']) (by simp [results, Tryz.results43, go_sem, u0, u1, u2, u3, u4, u5, u6]) rfl ?_
      have hr1 := HRR.out
      have hr2 := HGG.out
      refine ⟨HF7.out.onto HO.out (fun g e => by cases e; exact Nat.le_refl _), HR7.out.grown HO.out (by simp; omega) (by simp; omega), _, rfl, k, nm, nu, sh, B, n1, m1, B', n1', m1', B'', n1'', m1'', rfl, ?_⟩
      have hl1 := HD1.out.lt
      exact TreeV.stays.weaken (TreeV.stays.keep HT7.out (Keep.of_grown HO.out (fun b hb _ => by have h9 : w1.heap.size ≤ b := hb; simp; omega))) (fun b _ hb => by have h9 : w1.heap.size ≤ b := hb; unfold from_; omega)
  | false =>
    rw [if_neg (by simp)]
    cases hc : ((X.tx i).toList == tRepeat) with
    | true =>
      rw [if_pos rfl]
      cases h3 : numS X (i + 1) with
      | bad T k =>
        simp only [Res.bind_bad]
        unfold Parsed thrown faultV
        go_enter Tryz.func43, Tryz.ntmps43
        go_wp2_with (first
          | (go_at_call_of 51 (Value.string { data := #[108, 101, 116] }); refine (tMay_no HR0.out ⟨#[108, 101, 116]⟩ [108, 101, 116] (by simp) (by simp) hb).mono ?_; rintro e w1 ⟨rfl, hg, hr⟩; have HF1 := hide (HF0.out.then' hg); have HR1 := hide hr; have HD1 := hide (HD0.out.grown hg (by have := HRR.out; simp; omega)); clear hg hr)
          | (go_at_call_of 51 (Value.string { data := #[114, 101, 112, 101, 97, 116] }); refine (tMay_yes HR1.out ⟨#[114, 101, 112, 101, 97, 116]⟩ [114, 101, 112, 101, 97, 116] (by simp) (by simp) hc).mono ?_; rintro e w2 ⟨rfl, hg, hr⟩; have HF2 := hide (HF1.out.then' hg); have HR2 := hide hr; have HD2 := hide (HD1.out.grown hg (by have := HRR.out; simp; omega)); clear hg hr)
          | (go_at_call 57; refine (tNum HOK.out HR2.out).mono ?_; rw [h3]; unfold Parsed thrown faultV; rintro e wb ⟨hg, rfl⟩; have HFb := hide (HF2.out.then' hg); clear hg)
          )
        exact ⟨rfl, HFb.out, rfl⟩
      | ok n j =>
        simp only [Res.bind_ok]
        cases h7 : boundS X E 6 n tWith j with
        | bad T k =>
          unfold Parsed thrown faultV
          go_enter Tryz.func43, Tryz.ntmps43
          go_wp2_with (first
            | (go_at_call_of 51 (Value.string { data := #[108, 101, 116] }); refine (tMay_no HR0.out ⟨#[108, 101, 116]⟩ [108, 101, 116] (by simp) (by simp) hb).mono ?_; rintro e w1 ⟨rfl, hg, hr⟩; have HF1 := hide (HF0.out.then' hg); have HR1 := hide hr; have HD1 := hide (HD0.out.grown hg (by have := HRR.out; simp; omega)); clear hg hr)
            | (go_at_call_of 51 (Value.string { data := #[114, 101, 112, 101, 97, 116] }); refine (tMay_yes HR1.out ⟨#[114, 101, 112, 101, 97, 116]⟩ [114, 101, 112, 101, 97, 116] (by simp) (by simp) hc).mono ?_; rintro e w2 ⟨rfl, hg, hr⟩; have HF2 := hide (HF1.out.then' hg); have HR2 := hide hr; have HD2 := hide (HD1.out.grown hg (by have := HRR.out; simp; omega)); clear hg hr)
            | (go_at_call 57; refine (tNum HOK.out HR2.out).mono ?_; rw [h3]; rintro e w3 ⟨hg, hr, v5, rfl, hv5⟩; unfold repI at hv5; subst hv5; have HF3 := hide (HF2.out.then' hg); have HR3 := hide hr; have HD3 := hide (HD2.out.grown hg (by have := HRR.out; simp; omega)); clear hg hr)
            | (go_at_call 56; refine (tNamed HOK.out E 6 n ⟨#[119, 105, 116, 104]⟩ tWith (by simp) (by simp) HR3.out hL HEX.out).mono ?_; rw [h7]; unfold Parsed thrown faultV; rintro e wb ⟨hg, rfl⟩; have HFb := hide (HF3.out.then' hg); clear hg)
            )
          exact ⟨rfl, HFb.out, rfl⟩
        | ok t j7 =>
          go_enter Tryz.func43, Tryz.ntmps43
          go_wp2_with (first
            | (go_at_call_of 51 (Value.string { data := #[108, 101, 116] }); refine (tMay_no HR0.out ⟨#[108, 101, 116]⟩ [108, 101, 116] (by simp) (by simp) hb).mono ?_; rintro e w1 ⟨rfl, hg, hr⟩; have HF1 := hide (HF0.out.then' hg); have HR1 := hide hr; have HD1 := hide (HD0.out.grown hg (by have := HRR.out; simp; omega)); clear hg hr)
            | (go_at_call_of 51 (Value.string { data := #[114, 101, 112, 101, 97, 116] }); refine (tMay_yes HR1.out ⟨#[114, 101, 112, 101, 97, 116]⟩ [114, 101, 112, 101, 97, 116] (by simp) (by simp) hc).mono ?_; rintro e w2 ⟨rfl, hg, hr⟩; have HF2 := hide (HF1.out.then' hg); have HR2 := hide hr; have HD2 := hide (HD1.out.grown hg (by have := HRR.out; simp; omega)); clear hg hr)
            | (go_at_call 57; refine (tNum HOK.out HR2.out).mono ?_; rw [h3]; rintro e w3 ⟨hg, hr, v5, rfl, hv5⟩; unfold repI at hv5; subst hv5; have HF3 := hide (HF2.out.then' hg); have HR3 := hide hr; have HD3 := hide (HD2.out.grown hg (by have := HRR.out; simp; omega)); clear hg hr)
            | (go_at_call 56; refine (tNamed HOK.out E 6 n ⟨#[119, 105, 116, 104]⟩ tWith (by simp) (by simp) HR3.out hL HEX.out).mono ?_; rw [h7]; rintro e w7 ⟨hg, hr, v, rfl, k, nm, nu, sh, B, n1, m1, B', n1', m1', B'', n1'', m1'', rfl, htr⟩; have HF7 := hide (HF3.out.then' hg); have HR7 := hide hr; have HD7 := hide (HD3.out.grown hg (by have := HRR.out; simp; omega)); have HT7 := hide htr; obtain ⟨f0, f1, f2, f3, f4, f5, f6⟩ := HD7.out.frozen; obtain ⟨p0, p1, p2, p3, p4, p5, p6⟩ := HD7.out.cells; clear hg hr htr)
            )
          have HJ := hide ((HD7.out).put (.int .i64 k) (.string nm) (.int .i64 nu) (.bool sh) (.slice B n1 m1) (.slice B' n1' m1') (.slice B'' n1'' m1''))
          have HO := hide (SevAt.out w7 (w.heap.size) (.int .i64 k) (.string nm) (.int .i64 nu) (.bool sh) (.slice B n1 m1) (.slice B' n1' m1') (.slice B'' n1'' m1''))
          obtain ⟨u0, u1, u2, u3, u4, u5, u6⟩ := HJ.out.cells
          obtain ⟨wf, hwf⟩ : ∃ wf, wf = (((((((w7.setCell ⟨w.heap.size, 0, none⟩ (.int .i64 k)).setCell ⟨w.heap.size, 1, none⟩ (.string nm)).setCell ⟨w.heap.size, 2, none⟩ (.int .i64 nu)).setCell ⟨w.heap.size, 3, none⟩ (.bool sh)).setCell ⟨w.heap.size, 4, none⟩ (.slice B n1 m1)).setCell ⟨w.heap.size, 5, none⟩ (.slice B' n1' m1')).setCell ⟨w.heap.size, 6, none⟩ (.slice B'' n1'' m1'')) := ⟨_, rfl⟩
          rw [← hwf] at HO u0 u1 u2 u3 u4 u5 u6 ⊢
          clear hwf HJ
          refine bodyPost_ret (v := .agg #[.int .i64 k, .string nm, .int .i64 nu, .bool sh, .slice B n1 m1, .slice B' n1' m1', .slice B'' n1'' m1'']) (by simp [results, Tryz.results43, go_sem, u0, u1, u2, u3, u4, u5, u6]) rfl ?_
          have hr1 := HRR.out
          have hr2 := HGG.out
          refine ⟨HF7.out.onto HO.out (fun g e => by cases e; exact Nat.le_refl _), HR7.out.grown HO.out (by simp; omega) (by simp; omega), _, rfl, k, nm, nu, sh, B, n1, m1, B', n1', m1', B'', n1'', m1'', rfl, ?_⟩
          have hl1 := HD3.out.lt
          exact TreeV.stays.weaken (TreeV.stays.keep HT7.out (Keep.of_grown HO.out (fun b hb _ => by have h9 : w3.heap.size ≤ b := hb; simp; omega))) (fun b _ hb => by have h9 : w3.heap.size ≤ b := hb; unfold from_; omega)
    | false =>
      rw [if_neg (by simp)]
      cases h7 : chainS X (chainS X (factorS X E) isMulB) isSumB i with
      | bad T k =>
        unfold Parsed thrown faultV
        go_enter Tryz.func43, Tryz.ntmps43
        go_wp2_with (first
          | (go_at_call_of 51 (Value.string { data := #[108, 101, 116] }); refine (tMay_no HR0.out ⟨#[108, 101, 116]⟩ [108, 101, 116] (by simp) (by simp) hb).mono ?_; rintro e w1 ⟨rfl, hg, hr⟩; have HF1 := hide (HF0.out.then' hg); have HR1 := hide hr; have HD1 := hide (HD0.out.grown hg (by have := HRR.out; simp; omega)); clear hg hr)
          | (go_at_call_of 51 (Value.string { data := #[114, 101, 112, 101, 97, 116] }); refine (tMay_no HR1.out ⟨#[114, 101, 112, 101, 97, 116]⟩ [114, 101, 112, 101, 97, 116] (by simp) (by simp) hc).mono ?_; rintro e w2 ⟨rfl, hg, hr⟩; have HF2 := hide (HF1.out.then' hg); have HR2 := hide hr; have HD2 := hide (HD1.out.grown hg (by have := HRR.out; simp; omega)); clear hg hr)
          | (go_at_call 58; refine (HSX.out w2 i HR2.out).mono ?_; rw [h7]; unfold Parsed thrown faultV; rintro e wb ⟨hg, rfl⟩; have HFb := hide (HF2.out.then' hg); clear hg)
          )
        exact ⟨rfl, HFb.out, rfl⟩
      | ok t j7 =>
        go_enter Tryz.func43, Tryz.ntmps43
        go_wp2_with (first
          | (go_at_call_of 51 (Value.string { data := #[108, 101, 116] }); refine (tMay_no HR0.out ⟨#[108, 101, 116]⟩ [108, 101, 116] (by simp) (by simp) hb).mono ?_; rintro e w1 ⟨rfl, hg, hr⟩; have HF1 := hide (HF0.out.then' hg); have HR1 := hide hr; have HD1 := hide (HD0.out.grown hg (by have := HRR.out; simp; omega)); clear hg hr)
          | (go_at_call_of 51 (Value.string { data := #[114, 101, 112, 101, 97, 116] }); refine (tMay_no HR1.out ⟨#[114, 101, 112, 101, 97, 116]⟩ [114, 101, 112, 101, 97, 116] (by simp) (by simp) hc).mono ?_; rintro e w2 ⟨rfl, hg, hr⟩; have HF2 := hide (HF1.out.then' hg); have HR2 := hide hr; have HD2 := hide (HD1.out.grown hg (by have := HRR.out; simp; omega)); clear hg hr)
          | (go_at_call 58; refine (HSX.out w2 i HR2.out).mono ?_; rw [h7]; rintro e w7 ⟨hg, hr, v, rfl, k, nm, nu, sh, B, n1, m1, B', n1', m1', B'', n1'', m1'', rfl, htr⟩; have HF7 := hide (HF2.out.then' hg); have HR7 := hide hr; have HD7 := hide (HD2.out.grown hg (by have := HRR.out; simp; omega)); have HT7 := hide htr; obtain ⟨f0, f1, f2, f3, f4, f5, f6⟩ := HD7.out.frozen; obtain ⟨p0, p1, p2, p3, p4, p5, p6⟩ := HD7.out.cells; clear hg hr htr)
          )
        have HJ := hide ((HD7.out).put (.int .i64 k) (.string nm) (.int .i64 nu) (.bool sh) (.slice B n1 m1) (.slice B' n1' m1') (.slice B'' n1'' m1''))
        have HO := hide (SevAt.out w7 (w.heap.size) (.int .i64 k) (.string nm) (.int .i64 nu) (.bool sh) (.slice B n1 m1) (.slice B' n1' m1') (.slice B'' n1'' m1''))
        obtain ⟨u0, u1, u2, u3, u4, u5, u6⟩ := HJ.out.cells
        obtain ⟨wf, hwf⟩ : ∃ wf, wf = (((((((w7.setCell ⟨w.heap.size, 0, none⟩ (.int .i64 k)).setCell ⟨w.heap.size, 1, none⟩ (.string nm)).setCell ⟨w.heap.size, 2, none⟩ (.int .i64 nu)).setCell ⟨w.heap.size, 3, none⟩ (.bool sh)).setCell ⟨w.heap.size, 4, none⟩ (.slice B n1 m1)).setCell ⟨w.heap.size, 5, none⟩ (.slice B' n1' m1')).setCell ⟨w.heap.size, 6, none⟩ (.slice B'' n1'' m1'')) := ⟨_, rfl⟩
        rw [← hwf] at HO u0 u1 u2 u3 u4 u5 u6 ⊢
        clear hwf HJ
        refine bodyPost_ret (v := .agg #[.int .i64 k, .string nm, .int .i64 nu, .bool sh, .slice B n1 m1, .slice B' n1' m1', .slice B'' n1'' m1'']) (by simp [results, Tryz.results43, go_sem, u0, u1, u2, u3, u4, u5, u6]) rfl ?_
        have hr1 := HRR.out
        have hr2 := HGG.out
        refine ⟨HF7.out.onto HO.out (fun g e => by cases e; exact Nat.le_refl _), HR7.out.grown HO.out (by simp; omega) (by simp; omega), _, rfl, k, nm, nu, sh, B, n1, m1, B', n1', m1', B'', n1'', m1'', rfl, ?_⟩
        have hl1 := HD2.out.lt
        exact TreeV.stays.weaken (TreeV.stays.keep HT7.out (Keep.of_grown HO.out (fun b hb _ => by have h9 : w2.heap.size ≤ b := hb; simp; omega))) (fun b _ hb => by have h9 : w2.heap.size ≤ b := hb; unfold from_; omega)
end Go.Proofs.YtadhlnlcdljamaaGreatDoor.V
