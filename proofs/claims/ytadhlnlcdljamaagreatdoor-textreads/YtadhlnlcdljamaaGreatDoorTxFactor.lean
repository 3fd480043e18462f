/-
  The reader: factor.
-/
import Derived.Test.YtadhlnlcdljamaaGreatDoorTxNamed
namespace Go.Proofs.YtadhlnlcdljamaaGreatDoor.V
set_option maxRecDepth 20000
open Go.RowKit

set_option maxRecDepth 100000 in
set_option maxHeartbeats 8000000 in
theorem tFactor {X : Tks} {R G c L : Nat} {w : World} {i : Nat} (ok : X.Ok) (E : Nat → Res Tr) (h : RdAt X R G c w i) (hL : L ≤ 64)
    (hE : ∀ W j, RdAt X R G c W j → Calls Tryz.prog 43 #[.pointer (some ⟨R, 0, none⟩), .int .i64 ((L : Int) + 1)] W (Parsed X R G c (repT W) (E j) W))
    (hC : ∀ W j nm, RdAt X R G c W j → Calls Tryz.prog 86 #[.pointer (some ⟨R, 0, none⟩), .string nm, .int .i64 (L : Int)] W (Parsed X R G c (repT W) (callS X E nm j) W)) :
    Calls Tryz.prog 79 #[.pointer (some ⟨R, 0, none⟩), .int .i64 (L : Int)] w (Parsed X R G c (repT w) (factorS X E i) w) := by
  have HOK := hide ok
  have HRR := hide h.ltR
  have HGG := hide h.lt
  have HEX := hide hE
  have HCX := hide hC
  have hf0 := field_text
  have HD0 : Hid (SevZ (w.alloc (.cells z7 47)) w.heap.size) := SevAt.new w _ _ _ _ _ _ _
  have HR0 := hide (h.alloc (.cells z7 47))
  have HF0 := hide (World.grownBy_alloc w (.cells z7 47) (some R))
  clear h ok hE hC
  unfold factorS
  cases hb : ((X.tx i).toList == tC 40) with
  | true =>
    rw [if_pos rfl]
    have HM := hide (tMay_yes HR0.out ⟨#[40]⟩ (tC 40) (by simp) (by simp) hb)
    cases h2 : E (i + 1) with
    | bad T k =>
      simp only [Res.bind_bad]
      unfold Parsed thrown faultV
      go_enter Tryz.func79, Tryz.ntmps79
      go_wp2_with (first
        | (go_at_call 51; refine HM.out.mono ?_; rintro e w1 ⟨rfl, hg, hr⟩; have HF1 := hide (HF0.out.then' hg); have HR1 := hide hr; have HD1 := hide (HD0.out.grown hg (by have := HRR.out; simp; omega)); clear hg hr)
        | (go_at_call 43; refine (HEX.out w1 _ HR1.out).mono ?_; rw [h2]; unfold Parsed thrown faultV; rintro e wb ⟨hg, rfl⟩; have HFb := hide (HF1.out.then' hg); clear hg)
        )
      exact ⟨rfl, HFb.out, rfl⟩
    | ok t j =>
      simp only [Res.bind_ok]
      cases h3 : mustS X (tC 41) j with
      | bad T k =>
        simp only [Res.bind_bad]
        unfold Parsed thrown faultV
        go_enter Tryz.func79, Tryz.ntmps79
        go_wp2_with (first
          | (go_at_call 51; refine HM.out.mono ?_; rintro e w1 ⟨rfl, hg, hr⟩; have HF1 := hide (HF0.out.then' hg); have HR1 := hide hr; have HD1 := hide (HD0.out.grown hg (by have := HRR.out; simp; omega)); clear hg hr)
          | (go_at_call 43; refine (HEX.out w1 _ HR1.out).mono ?_; rw [h2]; rintro e w2 ⟨hg, hr, v, rfl, k, nm, nu, sh, B, n1, m1, B', n1', m1', B'', n1'', m1'', rfl, htr⟩; have HF2 := hide (HF1.out.then' hg); have HR2 := hide hr; have HD2 := hide (HD1.out.grown hg (by have := HRR.out; simp; omega)); have HT2 := hide htr; have hs2 := hg.size; clear hg hr htr)
          | (go_at_call 38; refine (tMust (HR2.out.alloc (.cells #[.int .i64 k, .string nm, .int .i64 nu, .bool sh, .slice B n1 m1, .slice B' n1' m1', .slice B'' n1'' m1''] 47)) ⟨#[41]⟩ (tC 41) (by simp) (by simp)).mono ?_; rw [h3]; unfold Parsed thrown faultV; rintro e wb ⟨hg, rfl⟩; have HFb := hide ((HF2.out.then' (World.grownBy_alloc w2 (.cells #[.int .i64 k, .string nm, .int .i64 nu, .bool sh, .slice B n1 m1, .slice B' n1' m1', .slice B'' n1'' m1''] 47) _)).then' hg); clear hg)
          )
        exact ⟨rfl, HFb.out, rfl⟩
      | ok _x j2 =>
        simp only [Res.bind_ok]
        go_enter Tryz.func79, Tryz.ntmps79
        go_wp2_with (first
          | (go_at_call 51; refine HM.out.mono ?_; rintro e w1 ⟨rfl, hg, hr⟩; have HF1 := hide (HF0.out.then' hg); have HR1 := hide hr; have HD1 := hide (HD0.out.grown hg (by have := HRR.out; simp; omega)); clear hg hr)
          | (go_at_call 43; refine (HEX.out w1 _ HR1.out).mono ?_; rw [h2]; rintro e w2 ⟨hg, hr, v, rfl, k, nm, nu, sh, B, n1, m1, B', n1', m1', B'', n1'', m1'', rfl, htr⟩; have HF2 := hide (HF1.out.then' hg); have HR2 := hide hr; have HD2 := hide (HD1.out.grown hg (by have := HRR.out; simp; omega)); have HT2 := hide htr; have hs2 := hg.size; clear hg hr htr)
          | (go_at_call 38; refine (tMust (HR2.out.alloc (.cells #[.int .i64 k, .string nm, .int .i64 nu, .bool sh, .slice B n1 m1, .slice B' n1' m1', .slice B'' n1'' m1''] 47)) ⟨#[41]⟩ (tC 41) (by simp) (by simp)).mono ?_; rw [h3]; rintro e w3 ⟨hg, hr, v, rfl, hv⟩; unfold repU at hv; subst hv; have HF3 := hide ((HF2.out.then' (World.grownBy_alloc w2 (.cells #[.int .i64 k, .string nm, .int .i64 nu, .bool sh, .slice B n1 m1, .slice B' n1' m1', .slice B'' n1'' m1''] 47) _)).then' hg); have HR3 := hide hr; have HD3 := hide ((HD2.out.alloc (.cells #[.int .i64 k, .string nm, .int .i64 nu, .bool sh, .slice B n1 m1, .slice B' n1' m1', .slice B'' n1'' m1''] 47)).grown hg (by have := HRR.out; simp; omega)); have HA3 := hide ((SevAt.new w2 _ _ _ _ _ _ _).grown hg (by have := HRR.out; have := HD2.out.lt; simp; omega)); have HT3 := hide (TreeV.stays.keep (TreeV.stays.keep HT2.out (Keep.alloc w2 (.cells #[.int .i64 k, .string nm, .int .i64 nu, .bool sh, .slice B n1 m1, .slice B' n1' m1', .slice B'' n1'' m1''] 47))) (Keep.of_grown hg (fun b hb _ => by have h9 : w1.heap.size ≤ b := hb; have := HRR.out; have := HD1.out.lt; simp; omega))); obtain ⟨a0, a1, a2, a3, a4, a5, a6⟩ := HA3.out.cells; obtain ⟨f0, f1, f2, f3, f4, f5, f6⟩ := HD3.out.frozen; obtain ⟨p0, p1, p2, p3, p4, p5, p6⟩ := HD3.out.cells; clear hg hr)
          )
        have HJ := hide ((HD3.out).put (.int .i64 k) (.string nm) (.int .i64 nu) (.bool sh) (.slice B n1 m1) (.slice B' n1' m1') (.slice B'' n1'' m1''))
        have HO := hide (SevAt.out w3 (w.heap.size) (.int .i64 k) (.string nm) (.int .i64 nu) (.bool sh) (.slice B n1 m1) (.slice B' n1' m1') (.slice B'' n1'' m1''))
        obtain ⟨u0, u1, u2, u3, u4, u5, u6⟩ := HJ.out.cells
        obtain ⟨wf, hwf⟩ : ∃ wf, wf = (((((((w3.setCell ⟨w.heap.size, 0, none⟩ (.int .i64 k)).setCell ⟨w.heap.size, 1, none⟩ (.string nm)).setCell ⟨w.heap.size, 2, none⟩ (.int .i64 nu)).setCell ⟨w.heap.size, 3, none⟩ (.bool sh)).setCell ⟨w.heap.size, 4, none⟩ (.slice B n1 m1)).setCell ⟨w.heap.size, 5, none⟩ (.slice B' n1' m1')).setCell ⟨w.heap.size, 6, none⟩ (.slice B'' n1'' m1'')) := ⟨_, rfl⟩
        rw [← hwf] at HO u0 u1 u2 u3 u4 u5 u6 ⊢
        clear hwf HJ
        refine bodyPost_ret (v := .agg #[.int .i64 k, .string nm, .int .i64 nu, .bool sh, .slice B n1 m1, .slice B' n1' m1', .slice B'' n1'' m1'']) (by simp [results, Tryz.results79, go_sem, u0, u1, u2, u3, u4, u5, u6]) rfl ?_
        have hr1 := HRR.out
        have hr2 := HGG.out
        refine ⟨HF3.out.onto HO.out (fun g e => by cases e; exact Nat.le_refl _), HR3.out.grown HO.out (by simp; omega) (by simp; omega), _, rfl, k, nm, nu, sh, B, n1, m1, B', n1', m1', B'', n1'', m1'', rfl, ?_⟩
        have hl1 := HD1.out.lt
        exact TreeV.stays.weaken (TreeV.stays.keep HT3.out (Keep.of_grown HO.out (fun b hb _ => by have h9 : w1.heap.size ≤ b := hb; simp; omega))) (fun b _ hb => by have h9 : w1.heap.size ≤ b := hb; unfold from_; omega)
  | false =>
    rw [if_neg (by simp)]
    have HM := hide (tMay_no HR0.out ⟨#[40]⟩ (tC 40) (by simp) (by simp) hb)
    cases hn : isNumB (X.tx i) with
    | true =>
      rw [if_pos rfl]
      have HN0 : Hid (numS X i = .ok (numVal (xsOf (X.tx i))) (i + 1)) := if_pos hn
      obtain ⟨N, hN⟩ : ∃ N, N = numVal (xsOf (X.tx i)) := ⟨_, rfl⟩
      rw [← hN] at HN0 ⊢
      clear hN
      go_enter Tryz.func79, Tryz.ntmps79
      go_wp2_with (first
        | (go_at_call 51; refine HM.out.mono ?_; rintro e w1 ⟨rfl, hg, hr⟩; have HF1 := hide (HF0.out.then' hg); have HR1 := hide hr; have HD1 := hide (HD0.out.grown hg (by have := HRR.out; simp; omega)); clear hg hr)
        | (go_at_call 64; refine (tNext HR1.out).mono ?_; rintro e w2 ⟨rfl, hb2⟩; have HF2 := hide (HF1.out.then' (hb2.by _)); have HR2 := hide (HR1.out.below hb2); have HD2 := hide (HD1.out.below hb2); clear hb2)
        | (go_at_call 66; refine (tNumber _ _).mono ?_; rw [hn]; rintro e w4 ⟨rfl, hw4⟩; obtain rfl := hw4.symm; clear hw4)
        | (go_at_call 57; refine (tNum HOK.out HR2.out).mono ?_; rw [HN0.out]; rintro e w3 ⟨hg, hr, v5, rfl, hv5⟩; unfold repI at hv5; subst hv5; have HF3 := hide (HF2.out.then' hg); have HR3 := hide hr; have HD3 := hide (HD2.out.grown hg (by have := HRR.out; simp; omega)); obtain ⟨f0, f1, f2, f3, f4, f5, f6⟩ := HD3.out.frozen; obtain ⟨p0, p1, p2, p3, p4, p5, p6⟩ := HD3.out.cells; clear hg hr)
        )
      have HJ := hide ((HD3.out).put (.int .i64 1) (.string ⟨#[]⟩) (.int .i64 N) (.bool false) (.slice none 0 0) (.slice none 0 0) (.slice none 0 0))
      have HO := hide (SevAt.out w3 (w.heap.size) (.int .i64 1) (.string ⟨#[]⟩) (.int .i64 N) (.bool false) (.slice none 0 0) (.slice none 0 0) (.slice none 0 0))
      obtain ⟨u0, u1, u2, u3, u4, u5, u6⟩ := HJ.out.cells
      obtain ⟨wf, hwf⟩ : ∃ wf, wf = (((((((w3.setCell ⟨w.heap.size, 0, none⟩ (.int .i64 1)).setCell ⟨w.heap.size, 1, none⟩ (.string ⟨#[]⟩)).setCell ⟨w.heap.size, 2, none⟩ (.int .i64 N)).setCell ⟨w.heap.size, 3, none⟩ (.bool false)).setCell ⟨w.heap.size, 4, none⟩ (.slice none 0 0)).setCell ⟨w.heap.size, 5, none⟩ (.slice none 0 0)).setCell ⟨w.heap.size, 6, none⟩ (.slice none 0 0)) := ⟨_, rfl⟩
      rw [← hwf] at HO u0 u1 u2 u3 u4 u5 u6 ⊢
      clear hwf HJ
      refine bodyPost_ret (v := .agg #[.int .i64 1, .string ⟨#[]⟩, .int .i64 N, .bool false, .slice none 0 0, .slice none 0 0, .slice none 0 0]) (by simp [results, Tryz.results79, go_sem, u0, u1, u2, u3, u4, u5, u6]) rfl ?_
      have hr1 := HRR.out
      have hr2 := HGG.out
      refine ⟨HF3.out.onto HO.out (fun g e => by cases e; exact Nat.le_refl _), HR3.out.grown HO.out (by simp; omega) (by simp; omega), _, rfl, 1, ⟨#[]⟩, N, false, none, 0, 0, none, 0, 0, none, 0, 0, rfl, ?_⟩
      exact TreeV.iff.2 ⟨_, _, _, rfl, SliceV.none _ _ _ _ _, SliceV.none _ _ _ _ _, SliceV.none _ _ _ _ _⟩
    | false =>
      rw [if_neg (by simp)]
      cases h3 : nameS X i with
      | bad T k =>
        simp only [Res.bind_bad]
        unfold Parsed thrown faultV
        go_enter Tryz.func79, Tryz.ntmps79
        go_wp2_with (first
          | (go_at_call 51; refine HM.out.mono ?_; rintro e w1 ⟨rfl, hg, hr⟩; have HF1 := hide (HF0.out.then' hg); have HR1 := hide hr; have HD1 := hide (HD0.out.grown hg (by have := HRR.out; simp; omega)); clear hg hr)
          | (go_at_call 64; refine (tNext HR1.out).mono ?_; rintro e w2 ⟨rfl, hb2⟩; have HF2 := hide (HF1.out.then' (hb2.by _)); have HR2 := hide (HR1.out.below hb2); have HD2 := hide (HD1.out.below hb2); clear hb2)
          | (go_at_call 66; refine (tNumber _ _).mono ?_; rw [hn]; rintro e w4 ⟨rfl, hw4⟩; obtain rfl := hw4.symm; clear hw4)
          | (go_at_call 39; refine (tName HOK.out HR2.out).mono ?_; rw [h3]; unfold Parsed thrown faultV; rintro e wb ⟨hg, rfl⟩; have HFb := hide (HF2.out.then' hg); clear hg)
          )
        exact ⟨rfl, HFb.out, rfl⟩
      | ok nm j =>
        simp only [Res.bind_ok]
        unfold opensB
        cases ha : ((X.tx j).toList == [91]) with
        | true =>
          rw [if_pos (by simp)]
          cases h7 : callS X E nm j with
          | bad T k =>
            unfold Parsed thrown faultV
            go_enter Tryz.func79, Tryz.ntmps79
            go_wp2_with (first
              | (go_at_call 51; refine HM.out.mono ?_; rintro e w1 ⟨rfl, hg, hr⟩; have HF1 := hide (HF0.out.then' hg); have HR1 := hide hr; have HD1 := hide (HD0.out.grown hg (by have := HRR.out; simp; omega)); clear hg hr)
              | (go_at_call 64; refine (tNext HR1.out).mono ?_; rintro e w2 ⟨rfl, hb2⟩; have HF2 := hide (HF1.out.then' (hb2.by _)); have HR2 := hide (HR1.out.below hb2); have HD2 := hide (HD1.out.below hb2); clear hb2)
              | (go_at_call 66; refine (tNumber _ _).mono ?_; rw [hn]; rintro e w4 ⟨rfl, hw4⟩; obtain rfl := hw4.symm; clear hw4)
              | (go_at_call 39; refine (tName HOK.out HR2.out).mono ?_; rw [h3]; rintro e w3 ⟨hg, hr, v, rfl, hv⟩; unfold repS at hv; subst hv; have HF3 := hide (HF2.out.then' hg); have HR3 := hide hr; have HD3 := hide (HD2.out.grown hg (by have := HRR.out; simp; omega)); clear hg hr)
              | (go_at_call_of 63 (Value.string { data := #[91] }); refine (tIs HR3.out ⟨#[91]⟩).mono ?_; rw [show (⟨#[91]⟩ : ByteArray).toList = [91] by simp, ha]; rintro e w4 ⟨rfl, hb4⟩; have HF4 := hide (HF3.out.then' (hb4.by _)); have HR4 := hide (HR3.out.below hb4); have HD4 := hide (HD3.out.below hb4); clear hb4)
              | (go_at_call 86; refine (HCX.out w4 j nm HR4.out).mono ?_; rw [h7]; unfold Parsed thrown faultV; rintro e wb ⟨hg, rfl⟩; have HFb := hide (HF4.out.then' hg); clear hg)
              )
            exact ⟨rfl, HFb.out, rfl⟩
          | ok t j7 =>
            go_enter Tryz.func79, Tryz.ntmps79
            go_wp2_with (first
              | (go_at_call 51; refine HM.out.mono ?_; rintro e w1 ⟨rfl, hg, hr⟩; have HF1 := hide (HF0.out.then' hg); have HR1 := hide hr; have HD1 := hide (HD0.out.grown hg (by have := HRR.out; simp; omega)); clear hg hr)
              | (go_at_call 64; refine (tNext HR1.out).mono ?_; rintro e w2 ⟨rfl, hb2⟩; have HF2 := hide (HF1.out.then' (hb2.by _)); have HR2 := hide (HR1.out.below hb2); have HD2 := hide (HD1.out.below hb2); clear hb2)
              | (go_at_call 66; refine (tNumber _ _).mono ?_; rw [hn]; rintro e w4 ⟨rfl, hw4⟩; obtain rfl := hw4.symm; clear hw4)
              | (go_at_call 39; refine (tName HOK.out HR2.out).mono ?_; rw [h3]; rintro e w3 ⟨hg, hr, v, rfl, hv⟩; unfold repS at hv; subst hv; have HF3 := hide (HF2.out.then' hg); have HR3 := hide hr; have HD3 := hide (HD2.out.grown hg (by have := HRR.out; simp; omega)); clear hg hr)
              | (go_at_call_of 63 (Value.string { data := #[91] }); refine (tIs HR3.out ⟨#[91]⟩).mono ?_; rw [show (⟨#[91]⟩ : ByteArray).toList = [91] by simp, ha]; rintro e w4 ⟨rfl, hb4⟩; have HF4 := hide (HF3.out.then' (hb4.by _)); have HR4 := hide (HR3.out.below hb4); have HD4 := hide (HD3.out.below hb4); clear hb4)
              | (go_at_call 86; refine (HCX.out w4 j nm HR4.out).mono ?_; rw [h7]; rintro e w7 ⟨hg, hr, v, rfl, k, nm2, nu, sh, B, n1, m1, B', n1', m1', B'', n1'', m1'', rfl, htr⟩; have HF7 := hide (HF4.out.then' hg); have HR7 := hide hr; have HD7 := hide (HD4.out.grown hg (by have := HRR.out; simp; omega)); have HT7 := hide htr; obtain ⟨f0, f1, f2, f3, f4, f5, f6⟩ := HD7.out.frozen; obtain ⟨p0, p1, p2, p3, p4, p5, p6⟩ := HD7.out.cells; clear hg hr htr)
              )
            have HJ := hide ((HD7.out).put (.int .i64 k) (.string nm2) (.int .i64 nu) (.bool sh) (.slice B n1 m1) (.slice B' n1' m1') (.slice B'' n1'' m1''))
            have HO := hide (SevAt.out w7 (w.heap.size) (.int .i64 k) (.string nm2) (.int .i64 nu) (.bool sh) (.slice B n1 m1) (.slice B' n1' m1') (.slice B'' n1'' m1''))
            obtain ⟨u0, u1, u2, u3, u4, u5, u6⟩ := HJ.out.cells
            obtain ⟨wf, hwf⟩ : ∃ wf, wf = (((((((w7.setCell ⟨w.heap.size, 0, none⟩ (.int .i64 k)).setCell ⟨w.heap.size, 1, none⟩ (.string nm2)).setCell ⟨w.heap.size, 2, none⟩ (.int .i64 nu)).setCell ⟨w.heap.size, 3, none⟩ (.bool sh)).setCell ⟨w.heap.size, 4, none⟩ (.slice B n1 m1)).setCell ⟨w.heap.size, 5, none⟩ (.slice B' n1' m1')).setCell ⟨w.heap.size, 6, none⟩ (.slice B'' n1'' m1'')) := ⟨_, rfl⟩
            rw [← hwf] at HO u0 u1 u2 u3 u4 u5 u6 ⊢
            clear hwf HJ
            refine bodyPost_ret (v := .agg #[.int .i64 k, .string nm2, .int .i64 nu, .bool sh, .slice B n1 m1, .slice B' n1' m1', .slice B'' n1'' m1'']) (by simp [results, Tryz.results79, go_sem, u0, u1, u2, u3, u4, u5, u6]) rfl ?_
            have hr1 := HRR.out
            have hr2 := HGG.out
            refine ⟨HF7.out.onto HO.out (fun g e => by cases e; exact Nat.le_refl _), HR7.out.grown HO.out (by simp; omega) (by simp; omega), _, rfl, k, nm2, nu, sh, B, n1, m1, B', n1', m1', B'', n1'', m1'', rfl, ?_⟩
            have hl1 := HD4.out.lt
            exact TreeV.stays.weaken (TreeV.stays.keep HT7.out (Keep.of_grown HO.out (fun b hb _ => by have h9 : w4.heap.size ≤ b := hb; simp; omega))) (fun b _ hb => by have h9 : w4.heap.size ≤ b := hb; unfold from_; omega)
        | false =>
          cases hb1 : ((X.tx j).toList == [123]) with
          | true =>
            rw [if_pos (by simp)]
            cases h7 : callS X E nm j with
            | bad T k =>
              unfold Parsed thrown faultV
              go_enter Tryz.func79, Tryz.ntmps79
              go_wp2_with (first
                | (go_at_call 51; refine HM.out.mono ?_; rintro e w1 ⟨rfl, hg, hr⟩; have HF1 := hide (HF0.out.then' hg); have HR1 := hide hr; have HD1 := hide (HD0.out.grown hg (by have := HRR.out; simp; omega)); clear hg hr)
                | (go_at_call 64; refine (tNext HR1.out).mono ?_; rintro e w2 ⟨rfl, hb2⟩; have HF2 := hide (HF1.out.then' (hb2.by _)); have HR2 := hide (HR1.out.below hb2); have HD2 := hide (HD1.out.below hb2); clear hb2)
                | (go_at_call 66; refine (tNumber _ _).mono ?_; rw [hn]; rintro e w4 ⟨rfl, hw4⟩; obtain rfl := hw4.symm; clear hw4)
                | (go_at_call 39; refine (tName HOK.out HR2.out).mono ?_; rw [h3]; rintro e w3 ⟨hg, hr, v, rfl, hv⟩; unfold repS at hv; subst hv; have HF3 := hide (HF2.out.then' hg); have HR3 := hide hr; have HD3 := hide (HD2.out.grown hg (by have := HRR.out; simp; omega)); clear hg hr)
                | (go_at_call_of 63 (Value.string { data := #[91] }); refine (tIs HR3.out ⟨#[91]⟩).mono ?_; rw [show (⟨#[91]⟩ : ByteArray).toList = [91] by simp, ha]; rintro e w4 ⟨rfl, hb4⟩; have HF4 := hide (HF3.out.then' (hb4.by _)); have HR4 := hide (HR3.out.below hb4); have HD4 := hide (HD3.out.below hb4); clear hb4)
                | (go_at_call_of 63 (Value.string { data := #[123] }); refine (tIs HR4.out ⟨#[123]⟩).mono ?_; rw [show (⟨#[123]⟩ : ByteArray).toList = [123] by simp, hb1]; rintro e w5 ⟨rfl, hb5⟩; have HF5 := hide (HF4.out.then' (hb5.by _)); have HR5 := hide (HR4.out.below hb5); have HD5 := hide (HD4.out.below hb5); clear hb5)
                | (go_at_call 86; refine (HCX.out w5 j nm HR5.out).mono ?_; rw [h7]; unfold Parsed thrown faultV; rintro e wb ⟨hg, rfl⟩; have HFb := hide (HF5.out.then' hg); clear hg)
                )
              exact ⟨rfl, HFb.out, rfl⟩
            | ok t j7 =>
              go_enter Tryz.func79, Tryz.ntmps79
              go_wp2_with (first
                | (go_at_call 51; refine HM.out.mono ?_; rintro e w1 ⟨rfl, hg, hr⟩; have HF1 := hide (HF0.out.then' hg); have HR1 := hide hr; have HD1 := hide (HD0.out.grown hg (by have := HRR.out; simp; omega)); clear hg hr)
                | (go_at_call 64; refine (tNext HR1.out).mono ?_; rintro e w2 ⟨rfl, hb2⟩; have HF2 := hide (HF1.out.then' (hb2.by _)); have HR2 := hide (HR1.out.below hb2); have HD2 := hide (HD1.out.below hb2); clear hb2)
                | (go_at_call 66; refine (tNumber _ _).mono ?_; rw [hn]; rintro e w4 ⟨rfl, hw4⟩; obtain rfl := hw4.symm; clear hw4)
                | (go_at_call 39; refine (tName HOK.out HR2.out).mono ?_; rw [h3]; rintro e w3 ⟨hg, hr, v, rfl, hv⟩; unfold repS at hv; subst hv; have HF3 := hide (HF2.out.then' hg); have HR3 := hide hr; have HD3 := hide (HD2.out.grown hg (by have := HRR.out; simp; omega)); clear hg hr)
                | (go_at_call_of 63 (Value.string { data := #[91] }); refine (tIs HR3.out ⟨#[91]⟩).mono ?_; rw [show (⟨#[91]⟩ : ByteArray).toList = [91] by simp, ha]; rintro e w4 ⟨rfl, hb4⟩; have HF4 := hide (HF3.out.then' (hb4.by _)); have HR4 := hide (HR3.out.below hb4); have HD4 := hide (HD3.out.below hb4); clear hb4)
                | (go_at_call_of 63 (Value.string { data := #[123] }); refine (tIs HR4.out ⟨#[123]⟩).mono ?_; rw [show (⟨#[123]⟩ : ByteArray).toList = [123] by simp, hb1]; rintro e w5 ⟨rfl, hb5⟩; have HF5 := hide (HF4.out.then' (hb5.by _)); have HR5 := hide (HR4.out.below hb5); have HD5 := hide (HD4.out.below hb5); clear hb5)
                | (go_at_call 86; refine (HCX.out w5 j nm HR5.out).mono ?_; rw [h7]; rintro e w7 ⟨hg, hr, v, rfl, k, nm2, nu, sh, B, n1, m1, B', n1', m1', B'', n1'', m1'', rfl, htr⟩; have HF7 := hide (HF5.out.then' hg); have HR7 := hide hr; have HD7 := hide (HD5.out.grown hg (by have := HRR.out; simp; omega)); have HT7 := hide htr; obtain ⟨f0, f1, f2, f3, f4, f5, f6⟩ := HD7.out.frozen; obtain ⟨p0, p1, p2, p3, p4, p5, p6⟩ := HD7.out.cells; clear hg hr htr)
                )
              have HJ := hide ((HD7.out).put (.int .i64 k) (.string nm2) (.int .i64 nu) (.bool sh) (.slice B n1 m1) (.slice B' n1' m1') (.slice B'' n1'' m1''))
              have HO := hide (SevAt.out w7 (w.heap.size) (.int .i64 k) (.string nm2) (.int .i64 nu) (.bool sh) (.slice B n1 m1) (.slice B' n1' m1') (.slice B'' n1'' m1''))
              obtain ⟨u0, u1, u2, u3, u4, u5, u6⟩ := HJ.out.cells
              obtain ⟨wf, hwf⟩ : ∃ wf, wf = (((((((w7.setCell ⟨w.heap.size, 0, none⟩ (.int .i64 k)).setCell ⟨w.heap.size, 1, none⟩ (.string nm2)).setCell ⟨w.heap.size, 2, none⟩ (.int .i64 nu)).setCell ⟨w.heap.size, 3, none⟩ (.bool sh)).setCell ⟨w.heap.size, 4, none⟩ (.slice B n1 m1)).setCell ⟨w.heap.size, 5, none⟩ (.slice B' n1' m1')).setCell ⟨w.heap.size, 6, none⟩ (.slice B'' n1'' m1'')) := ⟨_, rfl⟩
              rw [← hwf] at HO u0 u1 u2 u3 u4 u5 u6 ⊢
              clear hwf HJ
              refine bodyPost_ret (v := .agg #[.int .i64 k, .string nm2, .int .i64 nu, .bool sh, .slice B n1 m1, .slice B' n1' m1', .slice B'' n1'' m1'']) (by simp [results, Tryz.results79, go_sem, u0, u1, u2, u3, u4, u5, u6]) rfl ?_
              have hr1 := HRR.out
              have hr2 := HGG.out
              refine ⟨HF7.out.onto HO.out (fun g e => by cases e; exact Nat.le_refl _), HR7.out.grown HO.out (by simp; omega) (by simp; omega), _, rfl, k, nm2, nu, sh, B, n1, m1, B', n1', m1', B'', n1'', m1'', rfl, ?_⟩
              have hl1 := HD5.out.lt
              exact TreeV.stays.weaken (TreeV.stays.keep HT7.out (Keep.of_grown HO.out (fun b hb _ => by have h9 : w5.heap.size ≤ b := hb; simp; omega))) (fun b _ hb => by have h9 : w5.heap.size ≤ b := hb; unfold from_; omega)
          | false =>
            cases hc : ((X.tx j).toList == [40]) with
            | true =>
              rw [if_pos (by simp)]
              cases h7 : callS X E nm j with
              | bad T k =>
                unfold Parsed thrown faultV
                go_enter Tryz.func79, Tryz.ntmps79
                go_wp2_with (first
                  | (go_at_call 51; refine HM.out.mono ?_; rintro e w1 ⟨rfl, hg, hr⟩; have HF1 := hide (HF0.out.then' hg); have HR1 := hide hr; have HD1 := hide (HD0.out.grown hg (by have := HRR.out; simp; omega)); clear hg hr)
                  | (go_at_call 64; refine (tNext HR1.out).mono ?_; rintro e w2 ⟨rfl, hb2⟩; have HF2 := hide (HF1.out.then' (hb2.by _)); have HR2 := hide (HR1.out.below hb2); have HD2 := hide (HD1.out.below hb2); clear hb2)
                  | (go_at_call 66; refine (tNumber _ _).mono ?_; rw [hn]; rintro e w4 ⟨rfl, hw4⟩; obtain rfl := hw4.symm; clear hw4)
                  | (go_at_call 39; refine (tName HOK.out HR2.out).mono ?_; rw [h3]; rintro e w3 ⟨hg, hr, v, rfl, hv⟩; unfold repS at hv; subst hv; have HF3 := hide (HF2.out.then' hg); have HR3 := hide hr; have HD3 := hide (HD2.out.grown hg (by have := HRR.out; simp; omega)); clear hg hr)
                  | (go_at_call_of 63 (Value.string { data := #[91] }); refine (tIs HR3.out ⟨#[91]⟩).mono ?_; rw [show (⟨#[91]⟩ : ByteArray).toList = [91] by simp, ha]; rintro e w4 ⟨rfl, hb4⟩; have HF4 := hide (HF3.out.then' (hb4.by _)); have HR4 := hide (HR3.out.below hb4); have HD4 := hide (HD3.out.below hb4); clear hb4)
                  | (go_at_call_of 63 (Value.string { data := #[123] }); refine (tIs HR4.out ⟨#[123]⟩).mono ?_; rw [show (⟨#[123]⟩ : ByteArray).toList = [123] by simp, hb1]; rintro e w5 ⟨rfl, hb5⟩; have HF5 := hide (HF4.out.then' (hb5.by _)); have HR5 := hide (HR4.out.below hb5); have HD5 := hide (HD4.out.below hb5); clear hb5)
                  | (go_at_call_of 63 (Value.string { data := #[40] }); refine (tIs HR5.out ⟨#[40]⟩).mono ?_; rw [show (⟨#[40]⟩ : ByteArray).toList = [40] by simp, hc]; rintro e w6 ⟨rfl, hb6⟩; have HF6 := hide (HF5.out.then' (hb6.by _)); have HR6 := hide (HR5.out.below hb6); have HD6 := hide (HD5.out.below hb6); clear hb6)
                  | (go_at_call 86; refine (HCX.out w6 j nm HR6.out).mono ?_; rw [h7]; unfold Parsed thrown faultV; rintro e wb ⟨hg, rfl⟩; have HFb := hide (HF6.out.then' hg); clear hg)
                  )
                exact ⟨rfl, HFb.out, rfl⟩
              | ok t j7 =>
                go_enter Tryz.func79, Tryz.ntmps79
                go_wp2_with (first
                  | (go_at_call 51; refine HM.out.mono ?_; rintro e w1 ⟨rfl, hg, hr⟩; have HF1 := hide (HF0.out.then' hg); have HR1 := hide hr; have HD1 := hide (HD0.out.grown hg (by have := HRR.out; simp; omega)); clear hg hr)
                  | (go_at_call 64; refine (tNext HR1.out).mono ?_; rintro e w2 ⟨rfl, hb2⟩; have HF2 := hide (HF1.out.then' (hb2.by _)); have HR2 := hide (HR1.out.below hb2); have HD2 := hide (HD1.out.below hb2); clear hb2)
                  | (go_at_call 66; refine (tNumber _ _).mono ?_; rw [hn]; rintro e w4 ⟨rfl, hw4⟩; obtain rfl := hw4.symm; clear hw4)
                  | (go_at_call 39; refine (tName HOK.out HR2.out).mono ?_; rw [h3]; rintro e w3 ⟨hg, hr, v, rfl, hv⟩; unfold repS at hv; subst hv; have HF3 := hide (HF2.out.then' hg); have HR3 := hide hr; have HD3 := hide (HD2.out.grown hg (by have := HRR.out; simp; omega)); clear hg hr)
                  | (go_at_call_of 63 (Value.string { data := #[91] }); refine (tIs HR3.out ⟨#[91]⟩).mono ?_; rw [show (⟨#[91]⟩ : ByteArray).toList = [91] by simp, ha]; rintro e w4 ⟨rfl, hb4⟩; have HF4 := hide (HF3.out.then' (hb4.by _)); have HR4 := hide (HR3.out.below hb4); have HD4 := hide (HD3.out.below hb4); clear hb4)
                  | (go_at_call_of 63 (Value.string { data := #[123] }); refine (tIs HR4.out ⟨#[123]⟩).mono ?_; rw [show (⟨#[123]⟩ : ByteArray).toList = [123] by simp, hb1]; rintro e w5 ⟨rfl, hb5⟩; have HF5 := hide (HF4.out.then' (hb5.by _)); have HR5 := hide (HR4.out.below hb5); have HD5 := hide (HD4.out.below hb5); clear hb5)
                  | (go_at_call_of 63 (Value.string { data := #[40] }); refine (tIs HR5.out ⟨#[40]⟩).mono ?_; rw [show (⟨#[40]⟩ : ByteArray).toList = [40] by simp, hc]; rintro e w6 ⟨rfl, hb6⟩; have HF6 := hide (HF5.out.then' (hb6.by _)); have HR6 := hide (HR5.out.below hb6); have HD6 := hide (HD5.out.below hb6); clear hb6)
                  | (go_at_call 86; refine (HCX.out w6 j nm HR6.out).mono ?_; rw [h7]; rintro e w7 ⟨hg, hr, v, rfl, k, nm2, nu, sh, B, n1, m1, B', n1', m1', B'', n1'', m1'', rfl, htr⟩; have HF7 := hide (HF6.out.then' hg); have HR7 := hide hr; have HD7 := hide (HD6.out.grown hg (by have := HRR.out; simp; omega)); have HT7 := hide htr; obtain ⟨f0, f1, f2, f3, f4, f5, f6⟩ := HD7.out.frozen; obtain ⟨p0, p1, p2, p3, p4, p5, p6⟩ := HD7.out.cells; clear hg hr htr)
                  )
                have HJ := hide ((HD7.out).put (.int .i64 k) (.string nm2) (.int .i64 nu) (.bool sh) (.slice B n1 m1) (.slice B' n1' m1') (.slice B'' n1'' m1''))
                have HO := hide (SevAt.out w7 (w.heap.size) (.int .i64 k) (.string nm2) (.int .i64 nu) (.bool sh) (.slice B n1 m1) (.slice B' n1' m1') (.slice B'' n1'' m1''))
                obtain ⟨u0, u1, u2, u3, u4, u5, u6⟩ := HJ.out.cells
                obtain ⟨wf, hwf⟩ : ∃ wf, wf = (((((((w7.setCell ⟨w.heap.size, 0, none⟩ (.int .i64 k)).setCell ⟨w.heap.size, 1, none⟩ (.string nm2)).setCell ⟨w.heap.size, 2, none⟩ (.int .i64 nu)).setCell ⟨w.heap.size, 3, none⟩ (.bool sh)).setCell ⟨w.heap.size, 4, none⟩ (.slice B n1 m1)).setCell ⟨w.heap.size, 5, none⟩ (.slice B' n1' m1')).setCell ⟨w.heap.size, 6, none⟩ (.slice B'' n1'' m1'')) := ⟨_, rfl⟩
                rw [← hwf] at HO u0 u1 u2 u3 u4 u5 u6 ⊢
                clear hwf HJ
                refine bodyPost_ret (v := .agg #[.int .i64 k, .string nm2, .int .i64 nu, .bool sh, .slice B n1 m1, .slice B' n1' m1', .slice B'' n1'' m1'']) (by simp [results, Tryz.results79, go_sem, u0, u1, u2, u3, u4, u5, u6]) rfl ?_
                have hr1 := HRR.out
                have hr2 := HGG.out
                refine ⟨HF7.out.onto HO.out (fun g e => by cases e; exact Nat.le_refl _), HR7.out.grown HO.out (by simp; omega) (by simp; omega), _, rfl, k, nm2, nu, sh, B, n1, m1, B', n1', m1', B'', n1'', m1'', rfl, ?_⟩
                have hl1 := HD6.out.lt
                exact TreeV.stays.weaken (TreeV.stays.keep HT7.out (Keep.of_grown HO.out (fun b hb _ => by have h9 : w6.heap.size ≤ b := hb; simp; omega))) (fun b _ hb => by have h9 : w6.heap.size ≤ b := hb; unfold from_; omega)
            | false =>
              rw [if_neg (by simp)]
              go_enter Tryz.func79, Tryz.ntmps79
              go_wp2_with (first
                | (go_at_call 51; refine HM.out.mono ?_; rintro e w1 ⟨rfl, hg, hr⟩; have HF1 := hide (HF0.out.then' hg); have HR1 := hide hr; have HD1 := hide (HD0.out.grown hg (by have := HRR.out; simp; omega)); clear hg hr)
                | (go_at_call 64; refine (tNext HR1.out).mono ?_; rintro e w2 ⟨rfl, hb2⟩; have HF2 := hide (HF1.out.then' (hb2.by _)); have HR2 := hide (HR1.out.below hb2); have HD2 := hide (HD1.out.below hb2); clear hb2)
                | (go_at_call 66; refine (tNumber _ _).mono ?_; rw [hn]; rintro e w4 ⟨rfl, hw4⟩; obtain rfl := hw4.symm; clear hw4)
                | (go_at_call 39; refine (tName HOK.out HR2.out).mono ?_; rw [h3]; rintro e w3 ⟨hg, hr, v, rfl, hv⟩; unfold repS at hv; subst hv; have HF3 := hide (HF2.out.then' hg); have HR3 := hide hr; have HD3 := hide (HD2.out.grown hg (by have := HRR.out; simp; omega)); clear hg hr)
                | (go_at_call_of 63 (Value.string { data := #[91] }); refine (tIs HR3.out ⟨#[91]⟩).mono ?_; rw [show (⟨#[91]⟩ : ByteArray).toList = [91] by simp, ha]; rintro e w4 ⟨rfl, hb4⟩; have HF4 := hide (HF3.out.then' (hb4.by _)); have HR4 := hide (HR3.out.below hb4); have HD4 := hide (HD3.out.below hb4); clear hb4)
                | (go_at_call_of 63 (Value.string { data := #[123] }); refine (tIs HR4.out ⟨#[123]⟩).mono ?_; rw [show (⟨#[123]⟩ : ByteArray).toList = [123] by simp, hb1]; rintro e w5 ⟨rfl, hb5⟩; have HF5 := hide (HF4.out.then' (hb5.by _)); have HR5 := hide (HR4.out.below hb5); have HD5 := hide (HD4.out.below hb5); clear hb5)
                | (go_at_call_of 63 (Value.string { data := #[40] }); refine (tIs HR5.out ⟨#[40]⟩).mono ?_; rw [show (⟨#[40]⟩ : ByteArray).toList = [40] by simp, hc]; rintro e w6 ⟨rfl, hb6⟩; have HF6 := hide (HF5.out.then' (hb6.by _)); have HR6 := hide (HR5.out.below hb6); have HD6 := hide (HD5.out.below hb6); obtain ⟨f0, f1, f2, f3, f4, f5, f6⟩ := HD6.out.frozen; obtain ⟨p0, p1, p2, p3, p4, p5, p6⟩ := HD6.out.cells; clear hb6)
                )
              have HJ := hide ((HD6.out).put (.int .i64 2) (.string nm) (.int .i64 0) (.bool false) (.slice none 0 0) (.slice none 0 0) (.slice none 0 0))
              have HO := hide (SevAt.out w6 (w.heap.size) (.int .i64 2) (.string nm) (.int .i64 0) (.bool false) (.slice none 0 0) (.slice none 0 0) (.slice none 0 0))
              obtain ⟨u0, u1, u2, u3, u4, u5, u6⟩ := HJ.out.cells
              obtain ⟨wf, hwf⟩ : ∃ wf, wf = (((((((w6.setCell ⟨w.heap.size, 0, none⟩ (.int .i64 2)).setCell ⟨w.heap.size, 1, none⟩ (.string nm)).setCell ⟨w.heap.size, 2, none⟩ (.int .i64 0)).setCell ⟨w.heap.size, 3, none⟩ (.bool false)).setCell ⟨w.heap.size, 4, none⟩ (.slice none 0 0)).setCell ⟨w.heap.size, 5, none⟩ (.slice none 0 0)).setCell ⟨w.heap.size, 6, none⟩ (.slice none 0 0)) := ⟨_, rfl⟩
              rw [← hwf] at HO u0 u1 u2 u3 u4 u5 u6 ⊢
              clear hwf HJ
              refine bodyPost_ret (v := .agg #[.int .i64 2, .string nm, .int .i64 0, .bool false, .slice none 0 0, .slice none 0 0, .slice none 0 0]) (by simp [results, Tryz.results79, go_sem, u0, u1, u2, u3, u4, u5, u6]) rfl ?_
              have hr1 := HRR.out
              have hr2 := HGG.out
              refine ⟨HF6.out.onto HO.out (fun g e => by cases e; exact Nat.le_refl _), HR6.out.grown HO.out (by simp; omega) (by simp; omega), _, rfl, 2, nm, 0, false, none, 0, 0, none, 0, 0, none, 0, 0, rfl, ?_⟩
              exact TreeV.iff.2 ⟨_, _, _, rfl, SliceV.none _ _ _ _ _, SliceV.none _ _ _ _ _, SliceV.none _ _ _ _ _⟩
end Go.Proofs.YtadhlnlcdljamaaGreatDoor.V
