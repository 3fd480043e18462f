/-
  The reader: named.
-/
import Derived.Test.YtadhlnlcdljamaaGreatDoorTxSum
namespace Go.Proofs.YtadhlnlcdljamaaGreatDoor.V
set_option maxRecDepth 20000
open Go.RowKit

set_option maxRecDepth 100000 in
set_option maxHeartbeats 8000000 in
theorem tNamed {X : Tks} {R G c L : Nat} {w : World} {i : Nat} (ok : X.Ok) (E : Nat → Res Tr) (kind num : Int) (wd : ByteArray) (word : List UInt8) (hwd : wd.toList = word) (hwn : word ≠ []) (h : RdAt X R G c w i) (hL : L ≤ 64)
    (hE : ∀ W j, RdAt X R G c W j → Calls Tryz.prog 43 #[.pointer (some ⟨R, 0, none⟩), .int .i64 ((L : Int) + 1)] W (Parsed X R G c (repT W) (E j) W)) :
    Calls Tryz.prog 56 #[.pointer (some ⟨R, 0, none⟩), .agg #[.int .i64 kind, .string ⟨#[]⟩, .int .i64 num, .bool false, .slice none 0 0, .slice none 0 0, .slice none 0 0], .string wd, .int .i64 (L : Int)] w (Parsed X R G c (repT w) (boundS X E kind num word i) w) := by
  have HOK := hide ok
  have HRR := hide h.ltR
  have HGG := hide h.lt
  have HEX := hide hE
  have HB0 := hide ((SevAt.new w (.int .i64 kind) (.string ⟨#[]⟩) (.int .i64 num) (.bool false) (.slice none 0 0) (.slice none 0 0) (.slice none 0 0)).alloc (.cells z7 47))
  have HD0 : Hid (SevZ ((w.alloc (.cells #[.int .i64 kind, .string ⟨#[]⟩, .int .i64 num, .bool false, .slice none 0 0, .slice none 0 0, .slice none 0 0] 47)).alloc (.cells z7 47)) (w.heap.size + 1)) := by
    have := SevAt.new (w.alloc (.cells #[.int .i64 kind, .string ⟨#[]⟩, .int .i64 num, .bool false, .slice none 0 0, .slice none 0 0, .slice none 0 0] 47)) (.int .i64 0) (.string ⟨#[]⟩) (.int .i64 0) (.bool false) (.slice none 0 0) (.slice none 0 0) (.slice none 0 0)
    simpa [Hid] using this
  have HR0 := hide ((h.alloc (.cells #[.int .i64 kind, .string ⟨#[]⟩, .int .i64 num, .bool false, .slice none 0 0, .slice none 0 0, .slice none 0 0] 47)).alloc (.cells z7 47))
  have HF0 := hide ((World.grownBy_alloc w (.cells #[.int .i64 kind, .string ⟨#[]⟩, .int .i64 num, .bool false, .slice none 0 0, .slice none 0 0, .slice none 0 0] 47) (some R)).then' (World.grownBy_alloc _ (.cells z7 47) _))
  clear h ok hE
  unfold boundS
  cases h1 : nameS X i with
  | bad T k =>
    simp only [Res.bind_bad]
    unfold Parsed thrown faultV
    go_enter Tryz.func56, Tryz.ntmps56
    go_wp2_with (first
      | (go_at_call 39; refine (tName HOK.out HR0.out).mono ?_; rw [h1]; unfold Parsed thrown faultV; rintro e wb ⟨hg, rfl⟩; have HFb := hide (HF0.out.then' hg); clear hg)
      )
    exact ⟨rfl, HFb.out, rfl⟩
  | ok nm i1 =>
    simp only [Res.bind_ok]
    cases h2 : mustS X (tC 61) i1 with
    | bad T k =>
      simp only [Res.bind_bad]
      unfold Parsed thrown faultV
      go_enter Tryz.func56, Tryz.ntmps56
      go_wp2_with (first
      | (go_at_call 39; refine (tName HOK.out HR0.out).mono ?_; rw [h1]; rintro e w1 ⟨hg, hr, v, rfl, hv⟩; unfold repS at hv; subst hv; have HF1 := hide (HF0.out.then' hg); have HR1 := hide hr; have HB1 := hide (HB0.out.grown hg (by have := HRR.out; simp; omega)); have HD1 := hide (HD0.out.grown hg (by have := HRR.out; simp; omega)); have f1 := HB1.out.frozen.2.1; have b1 := HB1.out.cells.2.1; clear hg hr)
      | (go_at_call_of 38 (Value.string { data := #[61] }); refine (tMust (HR1.out.grown (set_out w1 w.heap.size 1 (.string nm)) (by have := HRR.out; simp; omega) (by have := HGG.out; simp; omega)) ⟨#[61]⟩ (tC 61) (by simp) (by simp)).mono ?_; rw [h2]; unfold Parsed thrown faultV; rintro e wb ⟨hg, rfl⟩; have HFb := hide ((HF1.out.onto (set_out w1 w.heap.size 1 (.string nm)) (fun g e => by cases e; exact Nat.le_refl _)).then' hg); clear hg)
      )
      exact ⟨rfl, HFb.out, rfl⟩
    | ok _x2 i2 =>
      simp only [Res.bind_ok]
      cases h3 : E i2 with
      | bad T k =>
        simp only [Res.bind_bad]
        unfold Parsed thrown faultV
        go_enter Tryz.func56, Tryz.ntmps56
        go_wp2_with (first
      | (go_at_call 39; refine (tName HOK.out HR0.out).mono ?_; rw [h1]; rintro e w1 ⟨hg, hr, v, rfl, hv⟩; unfold repS at hv; subst hv; have HF1 := hide (HF0.out.then' hg); have HR1 := hide hr; have HB1 := hide (HB0.out.grown hg (by have := HRR.out; simp; omega)); have HD1 := hide (HD0.out.grown hg (by have := HRR.out; simp; omega)); have f1 := HB1.out.frozen.2.1; have b1 := HB1.out.cells.2.1; clear hg hr)
      | (go_at_call_of 38 (Value.string { data := #[61] }); refine (tMust (HR1.out.grown (set_out w1 w.heap.size 1 (.string nm)) (by have := HRR.out; simp; omega) (by have := HGG.out; simp; omega)) ⟨#[61]⟩ (tC 61) (by simp) (by simp)).mono ?_; rw [h2]; rintro e w2 ⟨hg, hr, v, rfl, hv⟩; unfold repU at hv; subst hv; have HF2 := hide ((HF1.out.onto (set_out w1 w.heap.size 1 (.string nm)) (fun g e => by cases e; exact Nat.le_refl _)).then' hg); have HR2 := hide hr; have HB2 := hide ((HB1.out.set1 (.string nm)).grown hg (by have := HRR.out; simp; omega)); have HD2 := hide ((HD1.out.grown (set_out w1 w.heap.size 1 (.string nm)) (by simp)).grown hg (by have := HRR.out; simp; omega)); clear hg hr f1 b1)
      | (go_at_call 43; refine (HEX.out w2 _ HR2.out).mono ?_; rw [h3]; unfold Parsed thrown faultV; rintro e wb ⟨hg, rfl⟩; have HFb := hide (HF2.out.then' hg); clear hg)
      )
        exact ⟨rfl, HFb.out, rfl⟩
      | ok a i3 =>
        simp only [Res.bind_ok]
        cases h4 : mustS X word i3 with
        | bad T k =>
          simp only [Res.bind_bad]
          unfold Parsed thrown faultV
          go_enter Tryz.func56, Tryz.ntmps56
          go_wp2_with (first
      | (go_at_call 39; refine (tName HOK.out HR0.out).mono ?_; rw [h1]; rintro e w1 ⟨hg, hr, v, rfl, hv⟩; unfold repS at hv; subst hv; have HF1 := hide (HF0.out.then' hg); have HR1 := hide hr; have HB1 := hide (HB0.out.grown hg (by have := HRR.out; simp; omega)); have HD1 := hide (HD0.out.grown hg (by have := HRR.out; simp; omega)); have f1 := HB1.out.frozen.2.1; have b1 := HB1.out.cells.2.1; clear hg hr)
      | (go_at_call_of 38 (Value.string { data := #[61] }); refine (tMust (HR1.out.grown (set_out w1 w.heap.size 1 (.string nm)) (by have := HRR.out; simp; omega) (by have := HGG.out; simp; omega)) ⟨#[61]⟩ (tC 61) (by simp) (by simp)).mono ?_; rw [h2]; rintro e w2 ⟨hg, hr, v, rfl, hv⟩; unfold repU at hv; subst hv; have HF2 := hide ((HF1.out.onto (set_out w1 w.heap.size 1 (.string nm)) (fun g e => by cases e; exact Nat.le_refl _)).then' hg); have HR2 := hide hr; have HB2 := hide ((HB1.out.set1 (.string nm)).grown hg (by have := HRR.out; simp; omega)); have HD2 := hide ((HD1.out.grown (set_out w1 w.heap.size 1 (.string nm)) (by simp)).grown hg (by have := HRR.out; simp; omega)); clear hg hr f1 b1)
      | (go_at_call 43; refine (HEX.out w2 _ HR2.out).mono ?_; rw [h3]; rintro e w3 ⟨hg, hr, v, rfl, ka, nma, nua, sha, Aa, na, ma, Ba, pa, qa, Ca, ra, sa, rfl, htr⟩; have HF3 := hide (HF2.out.then' hg); have HR3 := hide hr; have HB3 := hide (HB2.out.grown hg (by have := HRR.out; simp; omega)); have HD3 := hide (HD2.out.grown hg (by have := HRR.out; simp; omega)); have HT3 := hide htr; have hs3 := hg.size; clear hg hr htr)
      | (go_at_call_of 38 (Value.string wd); refine (tMust (HR3.out.alloc (.cells #[.int .i64 ka, .string nma, .int .i64 nua, .bool sha, .slice Aa na ma, .slice Ba pa qa, .slice Ca ra sa] 47)) wd word hwd hwn).mono ?_; rw [h4]; unfold Parsed thrown faultV; rintro e wb ⟨hg, rfl⟩; have HFb := hide ((HF3.out.then' (World.grownBy_alloc w3 (.cells #[.int .i64 ka, .string nma, .int .i64 nua, .bool sha, .slice Aa na ma, .slice Ba pa qa, .slice Ca ra sa] 47) _)).then' hg); clear hg)
      )
          exact ⟨rfl, HFb.out, rfl⟩
        | ok _x4 i4 =>
          simp only [Res.bind_ok]
          cases h5 : E i4 with
          | bad T k =>
            simp only [Res.bind_bad]
            go_enter Tryz.func56, Tryz.ntmps56
            go_wp2_with (first
      | (go_at_call 39; refine (tName HOK.out HR0.out).mono ?_; rw [h1]; rintro e w1 ⟨hg, hr, v, rfl, hv⟩; unfold repS at hv; subst hv; have HF1 := hide (HF0.out.then' hg); have HR1 := hide hr; have HB1 := hide (HB0.out.grown hg (by have := HRR.out; simp; omega)); have HD1 := hide (HD0.out.grown hg (by have := HRR.out; simp; omega)); have f1 := HB1.out.frozen.2.1; have b1 := HB1.out.cells.2.1; clear hg hr)
      | (go_at_call_of 38 (Value.string { data := #[61] }); refine (tMust (HR1.out.grown (set_out w1 w.heap.size 1 (.string nm)) (by have := HRR.out; simp; omega) (by have := HGG.out; simp; omega)) ⟨#[61]⟩ (tC 61) (by simp) (by simp)).mono ?_; rw [h2]; rintro e w2 ⟨hg, hr, v, rfl, hv⟩; unfold repU at hv; subst hv; have HF2 := hide ((HF1.out.onto (set_out w1 w.heap.size 1 (.string nm)) (fun g e => by cases e; exact Nat.le_refl _)).then' hg); have HR2 := hide hr; have HB2 := hide ((HB1.out.set1 (.string nm)).grown hg (by have := HRR.out; simp; omega)); have HD2 := hide ((HD1.out.grown (set_out w1 w.heap.size 1 (.string nm)) (by simp)).grown hg (by have := HRR.out; simp; omega)); clear hg hr f1 b1)
      | (go_at_call 43; refine (HEX.out w2 _ HR2.out).mono ?_; rw [h3]; rintro e w3 ⟨hg, hr, v, rfl, ka, nma, nua, sha, Aa, na, ma, Ba, pa, qa, Ca, ra, sa, rfl, htr⟩; have HF3 := hide (HF2.out.then' hg); have HR3 := hide hr; have HB3 := hide (HB2.out.grown hg (by have := HRR.out; simp; omega)); have HD3 := hide (HD2.out.grown hg (by have := HRR.out; simp; omega)); have HT3 := hide htr; have hs3 := hg.size; clear hg hr htr)
      | (go_at_call_of 38 (Value.string wd); refine (tMust (HR3.out.alloc (.cells #[.int .i64 ka, .string nma, .int .i64 nua, .bool sha, .slice Aa na ma, .slice Ba pa qa, .slice Ca ra sa] 47)) wd word hwd hwn).mono ?_; rw [h4]; rintro e w4 ⟨hg, hr, v, rfl, hv⟩; unfold repU at hv; subst hv; have HF4 := hide ((HF3.out.then' (World.grownBy_alloc w3 (.cells #[.int .i64 ka, .string nma, .int .i64 nua, .bool sha, .slice Aa na ma, .slice Ba pa qa, .slice Ca ra sa] 47) _)).then' hg); have HR4 := hide hr; have HB4 := hide ((HB3.out.alloc (.cells #[.int .i64 ka, .string nma, .int .i64 nua, .bool sha, .slice Aa na ma, .slice Ba pa qa, .slice Ca ra sa] 47)).grown hg (by have := HRR.out; simp; omega)); have HD4 := hide ((HD3.out.alloc (.cells #[.int .i64 ka, .string nma, .int .i64 nua, .bool sha, .slice Aa na ma, .slice Ba pa qa, .slice Ca ra sa] 47)).grown hg (by have := HRR.out; simp; omega)); have HA4 := hide ((SevAt.new w3 _ _ _ _ _ _ _).grown hg (by have := HRR.out; have := HB3.out.lt; simp; omega)); have HT4 := hide (TreeV.stays.keep (TreeV.stays.keep HT3.out (Keep.alloc w3 (.cells #[.int .i64 ka, .string nma, .int .i64 nua, .bool sha, .slice Aa na ma, .slice Ba pa qa, .slice Ca ra sa] 47))) (Keep.of_grown hg (fun b hb _ => by have h9 : w2.heap.size ≤ b := hb; have := HRR.out; have := HB2.out.lt; simp; omega))); obtain ⟨a0, a1, a2, a3, a4, a5, a6⟩ := HA4.out.cells; clear hg hr)
      )
            have HP5 : Hid (Calls Tryz.prog 43 #[.pointer (some ⟨R, 0, none⟩), .int .i64 (IntKind.i64.wrap ((L : Int) + 1))] w4.drew (Parsed X R G c (repT w4.drew) (E i4) w4.drew)) := by rw [Hid, wrap_in _ (by omega) (by omega)]; exact HEX.out w4.drew i4 (HR4.out.grown (grown_drew _ none) (by simp) (by simp))
            rw [h5] at HP5
            go_region_dies
            all_goals
              refine HP5.out.mono ?_
              unfold Parsed thrown faultV
              rintro e w6 ⟨hg6, rfl⟩
              exact ⟨rfl, (HF4.out.then' (grown_drew _ _)).then' hg6, rfl⟩
          | ok b i5 =>
            simp only [Res.bind_ok]
            go_enter Tryz.func56, Tryz.ntmps56
            go_wp2_with (first
      | (go_at_call 39; refine (tName HOK.out HR0.out).mono ?_; rw [h1]; rintro e w1 ⟨hg, hr, v, rfl, hv⟩; unfold repS at hv; subst hv; have HF1 := hide (HF0.out.then' hg); have HR1 := hide hr; have HB1 := hide (HB0.out.grown hg (by have := HRR.out; simp; omega)); have HD1 := hide (HD0.out.grown hg (by have := HRR.out; simp; omega)); have f1 := HB1.out.frozen.2.1; have b1 := HB1.out.cells.2.1; clear hg hr)
      | (go_at_call_of 38 (Value.string { data := #[61] }); refine (tMust (HR1.out.grown (set_out w1 w.heap.size 1 (.string nm)) (by have := HRR.out; simp; omega) (by have := HGG.out; simp; omega)) ⟨#[61]⟩ (tC 61) (by simp) (by simp)).mono ?_; rw [h2]; rintro e w2 ⟨hg, hr, v, rfl, hv⟩; unfold repU at hv; subst hv; have HF2 := hide ((HF1.out.onto (set_out w1 w.heap.size 1 (.string nm)) (fun g e => by cases e; exact Nat.le_refl _)).then' hg); have HR2 := hide hr; have HB2 := hide ((HB1.out.set1 (.string nm)).grown hg (by have := HRR.out; simp; omega)); have HD2 := hide ((HD1.out.grown (set_out w1 w.heap.size 1 (.string nm)) (by simp)).grown hg (by have := HRR.out; simp; omega)); clear hg hr f1 b1)
      | (go_at_call 43; refine (HEX.out w2 _ HR2.out).mono ?_; rw [h3]; rintro e w3 ⟨hg, hr, v, rfl, ka, nma, nua, sha, Aa, na, ma, Ba, pa, qa, Ca, ra, sa, rfl, htr⟩; have HF3 := hide (HF2.out.then' hg); have HR3 := hide hr; have HB3 := hide (HB2.out.grown hg (by have := HRR.out; simp; omega)); have HD3 := hide (HD2.out.grown hg (by have := HRR.out; simp; omega)); have HT3 := hide htr; have hs3 := hg.size; clear hg hr htr)
      | (go_at_call_of 38 (Value.string wd); refine (tMust (HR3.out.alloc (.cells #[.int .i64 ka, .string nma, .int .i64 nua, .bool sha, .slice Aa na ma, .slice Ba pa qa, .slice Ca ra sa] 47)) wd word hwd hwn).mono ?_; rw [h4]; rintro e w4 ⟨hg, hr, v, rfl, hv⟩; unfold repU at hv; subst hv; have HF4 := hide ((HF3.out.then' (World.grownBy_alloc w3 (.cells #[.int .i64 ka, .string nma, .int .i64 nua, .bool sha, .slice Aa na ma, .slice Ba pa qa, .slice Ca ra sa] 47) _)).then' hg); have HR4 := hide hr; have HB4 := hide ((HB3.out.alloc (.cells #[.int .i64 ka, .string nma, .int .i64 nua, .bool sha, .slice Aa na ma, .slice Ba pa qa, .slice Ca ra sa] 47)).grown hg (by have := HRR.out; simp; omega)); have HD4 := hide ((HD3.out.alloc (.cells #[.int .i64 ka, .string nma, .int .i64 nua, .bool sha, .slice Aa na ma, .slice Ba pa qa, .slice Ca ra sa] 47)).grown hg (by have := HRR.out; simp; omega)); have HA4 := hide ((SevAt.new w3 _ _ _ _ _ _ _).grown hg (by have := HRR.out; have := HB3.out.lt; simp; omega)); have HT4 := hide (TreeV.stays.keep (TreeV.stays.keep HT3.out (Keep.alloc w3 (.cells #[.int .i64 ka, .string nma, .int .i64 nua, .bool sha, .slice Aa na ma, .slice Ba pa qa, .slice Ca ra sa] 47))) (Keep.of_grown hg (fun b hb _ => by have h9 : w2.heap.size ≤ b := hb; have := HRR.out; have := HB2.out.lt; simp; omega))); obtain ⟨a0, a1, a2, a3, a4, a5, a6⟩ := HA4.out.cells; clear hg hr)
      )
            have HP5 : Hid (Calls Tryz.prog 43 #[.pointer (some ⟨R, 0, none⟩), .int .i64 (IntKind.i64.wrap ((L : Int) + 1))] w4.drew (Parsed X R G c (repT w4.drew) (E i4) w4.drew)) := by rw [Hid, wrap_in _ (by omega) (by omega)]; exact HEX.out w4.drew i4 (HR4.out.grown (grown_drew _ none) (by simp) (by simp))
            rw [h5] at HP5
            go_region_with (refine HP5.out.mono ?_; rintro e w5 ⟨hg, hr, v, rfl, kb, nmb, nub, shb, Ab, nb, mb, Bb, pb, qb, Cb, rb, sb, rfl, htr⟩; have HF5 := hide ((HF4.out.then' (grown_drew _ _)).then' hg); have HR5 := hide hr; have HB5 := hide (HB4.out.drew.grown hg (by have := HRR.out; simp; omega)); have HD5 := hide (HD4.out.drew.grown hg (by have := HRR.out; simp; omega)); have HA5 := hide (HA4.out.drew.grown hg (by have := HRR.out; have := HB3.out.lt; simp; omega)); have HT5 := hide (TreeV.stays.keep HT4.out (Keep.of_grown ((grown_drew w4 (some R)).then' hg) (fun b hb _ => by have h9 : w2.heap.size ≤ b := hb; have := HRR.out; have := HB2.out.lt; simp; omega))); have HU5 := hide htr; have hs5 := hg.size; obtain ⟨a0, a1, a2, a3, a4, a5, a6⟩ := HA5.out.cells; obtain ⟨b0, b1, b2, b3, b4, b5, b6⟩ := HB5.out.cells; obtain ⟨f0, f1, f2, f3, f4, f5, f6⟩ := HB5.out.frozen; obtain ⟨d0, d1, d2, d3, d4, d5, d6⟩ := HD5.out.cells; obtain ⟨e0, e1, e2, e3, e4, e5, e6⟩ := HD5.out.frozen; have h6 := HB5.out.lt; have h7 := HD5.out.lt; have h8 := HA5.out.lt; clear hg hr htr)
            all_goals
              go_wp2
              have hr1 := HRR.out
              have hr2 := HGG.out
              have hs2 := HB2.out.lt
              have hs2' := HD2.out.lt
              have hs4 := HA4.out.lt
              have HS := hide (set_out w5 w.heap.size 6 (.slice (some ⟨w5.heap.size, 0, none⟩) 2 2))
              have HDS := hide (HD5.out.grown HS.out (by simp))
              have HJ := hide (HDS.out.put (.int .i64 kind) (.string nm) (.int .i64 num) (.bool false) (.slice none 0 0) (.slice none 0 0) (.slice (some ⟨w5.heap.size, 0, none⟩) 2 2))
              have HO := hide (SevAt.out (w5.setCell ⟨w.heap.size, 6, none⟩ (.slice (some ⟨w5.heap.size, 0, none⟩) 2 2)) (w.heap.size + 1) (.int .i64 kind) (.string nm) (.int .i64 num) (.bool false) (.slice none 0 0) (.slice none 0 0) (.slice (some ⟨w5.heap.size, 0, none⟩) 2 2))
              have hsz : (((((((((w5.setCell ⟨w.heap.size, 6, none⟩ (.slice (some ⟨w5.heap.size, 0, none⟩) 2 2)).setCell ⟨w.heap.size + 1, 0, none⟩ (.int .i64 kind)).setCell ⟨w.heap.size + 1, 1, none⟩ (.string nm)).setCell ⟨w.heap.size + 1, 2, none⟩ (.int .i64 num)).setCell ⟨w.heap.size + 1, 3, none⟩ (.bool false)).setCell ⟨w.heap.size + 1, 4, none⟩ (.slice none 0 0)).setCell ⟨w.heap.size + 1, 5, none⟩ (.slice none 0 0)).setCell ⟨w.heap.size + 1, 6, none⟩ (.slice (some ⟨w5.heap.size, 0, none⟩) 2 2))).heap.size = w5.heap.size := by simp [World.setCell]
              have HTA := hide (TreeV.stays.keep (TreeV.stays.keep HT5.out (Keep.of_grown HS.out (fun b hb _ => by have h9 : w2.heap.size ≤ b := hb; simp; omega))) (Keep.of_grown HO.out (fun b hb _ => by have h9 : w2.heap.size ≤ b := hb; simp; omega)))
              have HTB := hide (TreeV.stays.keep (TreeV.stays.keep HU5.out (Keep.of_grown HS.out (fun b hb _ => by have h9 : w4.heap.size ≤ b := hb; simp; omega))) (Keep.of_grown HO.out (fun b hb _ => by have h9 : w4.heap.size ≤ b := hb; simp; omega)))
              obtain ⟨wf, hwf⟩ : ∃ wf, wf = ((((((((w5.setCell ⟨w.heap.size, 6, none⟩ (.slice (some ⟨w5.heap.size, 0, none⟩) 2 2)).setCell ⟨w.heap.size + 1, 0, none⟩ (.int .i64 kind)).setCell ⟨w.heap.size + 1, 1, none⟩ (.string nm)).setCell ⟨w.heap.size + 1, 2, none⟩ (.int .i64 num)).setCell ⟨w.heap.size + 1, 3, none⟩ (.bool false)).setCell ⟨w.heap.size + 1, 4, none⟩ (.slice none 0 0)).setCell ⟨w.heap.size + 1, 5, none⟩ (.slice none 0 0)).setCell ⟨w.heap.size + 1, 6, none⟩ (.slice (some ⟨w5.heap.size, 0, none⟩) 2 2)) := ⟨_, rfl⟩
              rw [← hwf] at HO HJ hsz HTA HTB ⊢
              clear hwf
              obtain ⟨u0, u1, u2, u3, u4, u5, u6⟩ := (HJ.out.alloc (.cells #[.int .i64 ka, .string nma, .int .i64 nua, .bool sha, .slice Aa na ma, .slice Ba pa qa, .slice Ca ra sa, .int .i64 kb, .string nmb, .int .i64 nub, .bool shb, .slice Ab nb mb, .slice Bb pb qb, .slice Cb rb sb] 47)).cells
              refine bodyPost_ret (v := .agg #[.int .i64 kind, .string nm, .int .i64 num, .bool false, .slice none 0 0, .slice none 0 0, .slice (some ⟨w5.heap.size, 0, none⟩) 2 2]) (by simp [results, Tryz.results56, go_sem, u0, u1, u2, u3, u4, u5, u6]) rfl ?_
              refine ⟨((HF5.out.onto HS.out (fun g e => by cases e; exact Nat.le_refl _)).onto HO.out (fun g e => by cases e; omega)).then' (World.grownBy_alloc _ _ _), ((HR5.out.grown HS.out (by simp; omega) (by simp; omega)).grown HO.out (by simp; omega) (by simp; omega)).alloc _, _, rfl, kind, nm, num, false, none, 0, 0, none, 0, 0, some ⟨w5.heap.size, 0, none⟩, 2, 2, rfl, ?_⟩
              refine TreeV.twoKids (TreeV.stays.weaken (TreeV.stays.keep HTA.out (Keep.alloc _ _)) (fun b _ hb => by have h9 : w2.heap.size ≤ b := hb; unfold from_; omega)) (TreeV.stays.weaken (TreeV.stays.keep HTB.out (Keep.alloc _ _)) (fun b _ hb => by have h9 : w4.heap.size ≤ b := hb; unfold from_; omega)) (by unfold from_; omega) (ty := 47) ?_
              rw [← hsz]
              exact World.alloc_heap_new wf _
end Go.Proofs.YtadhlnlcdljamaaGreatDoor.V
