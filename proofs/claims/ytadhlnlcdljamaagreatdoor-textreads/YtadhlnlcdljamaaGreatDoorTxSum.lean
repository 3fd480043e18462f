/-
  The reader: sum, product, and their closures.
-/
import Derived.Test.YtadhlnlcdljamaaGreatDoorTxChain
namespace Go.Proofs.YtadhlnlcdljamaaGreatDoor.V
set_option maxRecDepth 20000
open Go.RowKit

theorem OneAt.drew {t : TypeId} {w : World} {b : Nat} {c : Value} (h : OneAt t w b c) : OneAt t w.drew b c := h
set_option maxRecDepth 100000 in
set_option maxHeartbeats 2000000 in
theorem tSumOne {X : Tks} {R G c b1 b2 : Nat} {L : Int} {w : World} {i : Nat} (r : Res Tr) (h1 : OneAt 59 w b1 (.pointer (some ⟨R, 0, none⟩))) (h2 : OneAt 3 w b2 (.int .i64 L)) (h : RdAt X R G c w i)
    (hc : ∀ W, RdAt X R G c W i → Calls Tryz.prog 70 #[.pointer (some ⟨R, 0, none⟩), .int .i64 L] W (Parsed X R G c (repT W) r W)) :
    Calls Tryz.prog 69 #[.pointer (some ⟨b1, 0, none⟩), .pointer (some ⟨b2, 0, none⟩)] w (Parsed X R G c (repT w) r w) := by
  have HC := hide (hc _ (h.alloc (.cells z7 47)))
  have HRR := hide h.ltR
  have HGG := hide h.lt
  have HA := hide (World.grownBy_alloc w (.cells z7 47) (some R))
  have c1 := (h1.alloc (.cells z7 47)).cells.1
  have c2 := (h2.alloc (.cells z7 47)).cells.1
  clear h1 h2 h hc
  cases r with
  | bad T k =>
    unfold Parsed thrown faultV at *
    go_enter Tryz.func69, Tryz.ntmps69
    go_wp2_with (go_at_call 70; refine HC.out.mono ?_; rintro e w1 ⟨hg, rfl⟩; have HG := hide hg; clear hg)
    exact ⟨rfl, HA.out.then' HG.out, rfl⟩
  | ok t j =>
    go_enter Tryz.func69, Tryz.ntmps69
    go_wp2_with (go_at_call 70; refine HC.out.mono ?_; rintro e w1 ⟨hg, hr1, v, rfl, k, nm, nu, sh, B, n1, m1, B', n1', m1', B'', n1'', m1'', rfl, htr⟩; have HG := hide hg; have HR1 := hide hr1; have HT1 := hide htr; have HD1 : Hid (SevZ w1 w.heap.size) := (SevAt.new w _ _ _ _ _ _ _).grown hg (by have := HRR.out; simp; omega); obtain ⟨f0, f1, f2, f3, f4, f5, f6⟩ := HD1.out.frozen; obtain ⟨p0, p1, p2, p3, p4, p5, p6⟩ := HD1.out.cells; clear hg hr1 htr)
    have HJ := hide ((HD1.out).put (.int .i64 k) (.string nm) (.int .i64 nu) (.bool sh) (.slice B n1 m1) (.slice B' n1' m1') (.slice B'' n1'' m1''))
    have HO := hide (SevAt.out w1 (w.heap.size) (.int .i64 k) (.string nm) (.int .i64 nu) (.bool sh) (.slice B n1 m1) (.slice B' n1' m1') (.slice B'' n1'' m1''))
    obtain ⟨u0, u1, u2, u3, u4, u5, u6⟩ := HJ.out.cells
    obtain ⟨wf, hwf⟩ : ∃ wf, wf = (((((((w1.setCell ⟨w.heap.size, 0, none⟩ (.int .i64 k)).setCell ⟨w.heap.size, 1, none⟩ (.string nm)).setCell ⟨w.heap.size, 2, none⟩ (.int .i64 nu)).setCell ⟨w.heap.size, 3, none⟩ (.bool sh)).setCell ⟨w.heap.size, 4, none⟩ (.slice B n1 m1)).setCell ⟨w.heap.size, 5, none⟩ (.slice B' n1' m1')).setCell ⟨w.heap.size, 6, none⟩ (.slice B'' n1'' m1'')) := ⟨_, rfl⟩
    rw [← hwf] at HO u0 u1 u2 u3 u4 u5 u6 ⊢
    clear hwf HJ
    refine bodyPost_ret (v := .agg #[.int .i64 k, .string nm, .int .i64 nu, .bool sh, .slice B n1 m1, .slice B' n1' m1', .slice B'' n1'' m1'']) (by simp [results, Tryz.results69, go_sem, u0, u1, u2, u3, u4, u5, u6]) rfl ?_
    have hr1 := HRR.out
    have hr2 := HGG.out
    refine ⟨(HA.out.then' HG.out).onto HO.out (fun g e => by cases e; exact Nat.le_refl _), HR1.out.grown HO.out (by simp; omega) (by simp; omega), _, rfl, k, nm, nu, sh, B, n1, m1, B', n1', m1', B'', n1'', m1'', rfl, ?_⟩
    refine TreeV.stays.weaken (TreeV.stays.keep HT1.out (Keep.of_grown HO.out (fun b hb _ => ?_))) (fun b _ hb => ?_)
    · have : w.heap.size + 1 ≤ b := by simpa [from_] using hb
      simp; omega
    · have : w.heap.size + 1 ≤ b := by simpa [from_] using hb
      unfold from_; omega

set_option maxRecDepth 100000 in
set_option maxHeartbeats 2000000 in
theorem tProductOne {X : Tks} {R G c b1 b2 : Nat} {L : Int} {w : World} {i : Nat} (r : Res Tr) (h1 : OneAt 59 w b1 (.pointer (some ⟨R, 0, none⟩))) (h2 : OneAt 3 w b2 (.int .i64 L)) (h : RdAt X R G c w i)
    (hc : ∀ W, RdAt X R G c W i → Calls Tryz.prog 79 #[.pointer (some ⟨R, 0, none⟩), .int .i64 L] W (Parsed X R G c (repT W) r W)) :
    Calls Tryz.prog 78 #[.pointer (some ⟨b1, 0, none⟩), .pointer (some ⟨b2, 0, none⟩)] w (Parsed X R G c (repT w) r w) := by
  have HC := hide (hc _ (h.alloc (.cells z7 47)))
  have HRR := hide h.ltR
  have HGG := hide h.lt
  have HA := hide (World.grownBy_alloc w (.cells z7 47) (some R))
  have c1 := (h1.alloc (.cells z7 47)).cells.1
  have c2 := (h2.alloc (.cells z7 47)).cells.1
  clear h1 h2 h hc
  cases r with
  | bad T k =>
    unfold Parsed thrown faultV at *
    go_enter Tryz.func78, Tryz.ntmps78
    go_wp2_with (go_at_call 79; refine HC.out.mono ?_; rintro e w1 ⟨hg, rfl⟩; have HG := hide hg; clear hg)
    exact ⟨rfl, HA.out.then' HG.out, rfl⟩
  | ok t j =>
    go_enter Tryz.func78, Tryz.ntmps78
    go_wp2_with (go_at_call 79; refine HC.out.mono ?_; rintro e w1 ⟨hg, hr1, v, rfl, k, nm, nu, sh, B, n1, m1, B', n1', m1', B'', n1'', m1'', rfl, htr⟩; have HG := hide hg; have HR1 := hide hr1; have HT1 := hide htr; have HD1 : Hid (SevZ w1 w.heap.size) := (SevAt.new w _ _ _ _ _ _ _).grown hg (by have := HRR.out; simp; omega); obtain ⟨f0, f1, f2, f3, f4, f5, f6⟩ := HD1.out.frozen; obtain ⟨p0, p1, p2, p3, p4, p5, p6⟩ := HD1.out.cells; clear hg hr1 htr)
    have HJ := hide ((HD1.out).put (.int .i64 k) (.string nm) (.int .i64 nu) (.bool sh) (.slice B n1 m1) (.slice B' n1' m1') (.slice B'' n1'' m1''))
    have HO := hide (SevAt.out w1 (w.heap.size) (.int .i64 k) (.string nm) (.int .i64 nu) (.bool sh) (.slice B n1 m1) (.slice B' n1' m1') (.slice B'' n1'' m1''))
    obtain ⟨u0, u1, u2, u3, u4, u5, u6⟩ := HJ.out.cells
    obtain ⟨wf, hwf⟩ : ∃ wf, wf = (((((((w1.setCell ⟨w.heap.size, 0, none⟩ (.int .i64 k)).setCell ⟨w.heap.size, 1, none⟩ (.string nm)).setCell ⟨w.heap.size, 2, none⟩ (.int .i64 nu)).setCell ⟨w.heap.size, 3, none⟩ (.bool sh)).setCell ⟨w.heap.size, 4, none⟩ (.slice B n1 m1)).setCell ⟨w.heap.size, 5, none⟩ (.slice B' n1' m1')).setCell ⟨w.heap.size, 6, none⟩ (.slice B'' n1'' m1'')) := ⟨_, rfl⟩
    rw [← hwf] at HO u0 u1 u2 u3 u4 u5 u6 ⊢
    clear hwf HJ
    refine bodyPost_ret (v := .agg #[.int .i64 k, .string nm, .int .i64 nu, .bool sh, .slice B n1 m1, .slice B' n1' m1', .slice B'' n1'' m1'']) (by simp [results, Tryz.results78, go_sem, u0, u1, u2, u3, u4, u5, u6]) rfl ?_
    have hr1 := HRR.out
    have hr2 := HGG.out
    refine ⟨(HA.out.then' HG.out).onto HO.out (fun g e => by cases e; exact Nat.le_refl _), HR1.out.grown HO.out (by simp; omega) (by simp; omega), _, rfl, k, nm, nu, sh, B, n1, m1, B', n1', m1', B'', n1'', m1'', rfl, ?_⟩
    refine TreeV.stays.weaken (TreeV.stays.keep HT1.out (Keep.of_grown HO.out (fun b hb _ => ?_))) (fun b _ hb => ?_)
    · have : w.heap.size + 1 ≤ b := by simpa [from_] using hb
      simp; omega
    · have : w.heap.size + 1 ≤ b := by simpa [from_] using hb
      unfold from_; omega

theorem isMulB_lt {X : Tks} {j : Nat} (h : isMulB (X.tx j) = true) : j < X.ts.length := by
  by_cases c : j < X.ts.length
  · exact c
  · rw [Tks.tx_end (by omega)] at h
    unfold isMulB at h
    simp at h
set_option maxRecDepth 100000 in
set_option maxHeartbeats 4000000 in
theorem tProductAll {X : Tks} {R G c : Nat} {L : Int} {w : World} {i : Nat} (P : Nat → Res Tr) (h : RdAt X R G c w i)
    (hc : ∀ W j, RdAt X R G c W j → Calls Tryz.prog 79 #[.pointer (some ⟨R, 0, none⟩), .int .i64 L] W (Parsed X R G c (repT W) (P j) W)) :
    Calls Tryz.prog 70 #[.pointer (some ⟨R, 0, none⟩), .int .i64 L] w (Parsed X R G c (repT w) (chainS X P isMulB i) w) := by
  have hmf : ∀ (fn : Fn) (first cap : Array Value) (w : World), (Instr.makeFunc fn first cap).run Tryz.prog w = .ok (.func fn first cap) w := fun _ _ _ _ => rfl
  obtain ⟨W, hW⟩ : ∃ W, W = ((w.alloc (.cells #[.pointer (some ⟨R, 0, none⟩)] 59)).alloc (.cells #[.int .i64 L] 3)).alloc (.cells z7 47) := ⟨_, rfl⟩
  have b1 : OneAt 59 W w.heap.size (.pointer (some ⟨R, 0, none⟩)) := by rw [hW]; exact ((OneAt.new _ _ _).alloc _).alloc _
  have b2 : OneAt 3 W (w.heap.size + 1) (.int .i64 L) := by
    have := (OneAt.new 3 (w.alloc (.cells #[.pointer (some ⟨R, 0, none⟩)] 59)) (.int .i64 L)).alloc (.cells z7 47)
    rw [hW]; simpa using this
  have b3 : SevZ W (w.heap.size + 2) := by
    have := SevAt.new ((w.alloc (.cells #[.pointer (some ⟨R, 0, none⟩)] 59)).alloc (.cells #[.int .i64 L] 3)) (.int .i64 0) (.string ⟨#[]⟩) (.int .i64 0) (.bool false) (.slice none 0 0) (.slice none 0 0) (.slice none 0 0)
    rw [hW]; simpa using this
  have hA : w.grownBy W (some R) := by rw [hW]; exact ((World.grownBy_alloc _ _ _).then' (World.grownBy_alloc _ _ _)).then' (World.grownBy_alloc _ _ _)
  have hz : W.heap.size = w.heap.size + 3 := by rw [hW]; simp
  have hRW : RdAt X R G c W i := by rw [hW]; exact ((h.alloc _).alloc _).alloc _
  have HC := hide (tChain (w := W) P isMulB 77 78 #[.pointer (some ⟨w.heap.size, 0, none⟩), .pointer (some ⟨w.heap.size + 1, 0, none⟩)] (enters Tryz.func77 (by kernel_rfl) (by kernel_rfl)) (enters Tryz.func78 (by kernel_rfl) (by kernel_rfl)) tProduct (fun _ h => isMulB_lt h)
    (fun W2 j hR2 hG2 => tProductOne (P j) (b1.grown hG2 (by have := h.ltR; simp; omega)) (b2.grown hG2 (by have := h.ltR; simp; omega)) hR2 (fun W3 h3 => hc W3 j h3)) hRW)
  have c1 := b1.cells.1
  have HA := hide hA
  have HZ := hide hz
  have HB3 := hide b3
  have HRR := hide h.ltR
  have HGG := hide h.lt
  have HCW : Hid (∀ e w', Parsed X R G c (repT W) (chainS X P isMulB i) W e w' → True) := fun _ _ _ => trivial
  clear b1 b2 b3 hA hz hRW h hc HCW
  obtain ⟨r, hr⟩ : ∃ r, r = chainS X P isMulB i := ⟨_, rfl⟩
  rw [← hr] at HC ⊢
  clear hr
  subst hW
  cases r with
  | bad T k =>
    unfold Parsed thrown faultV at *
    go_enter Tryz.func70, Tryz.ntmps70
    go_wp2_with (go_at_call 67; refine HC.out.mono ?_; rintro e w1 ⟨hg, rfl⟩; have HG := hide hg; clear hg)
    exact ⟨rfl, HA.out.then' HG.out, rfl⟩
  | ok t j =>
    go_enter Tryz.func70, Tryz.ntmps70
    go_wp2_with (go_at_call 67; refine HC.out.mono ?_; rintro e w1 ⟨hg, hr1, v, rfl, k, nm, nu, sh, B, n1, m1, B', n1', m1', B'', n1'', m1'', rfl, htr⟩; have HG := hide hg; have HR1 := hide hr1; have HT1 := hide htr; have HD1 := hide (HB3.out.grown hg (by have := HRR.out; simp; omega)); obtain ⟨f0, f1, f2, f3, f4, f5, f6⟩ := HD1.out.frozen; obtain ⟨p0, p1, p2, p3, p4, p5, p6⟩ := HD1.out.cells; clear hg hr1 htr)
    have HJ := hide ((HD1.out).put (.int .i64 k) (.string nm) (.int .i64 nu) (.bool sh) (.slice B n1 m1) (.slice B' n1' m1') (.slice B'' n1'' m1''))
    have HO := hide (SevAt.out w1 (w.heap.size + 2) (.int .i64 k) (.string nm) (.int .i64 nu) (.bool sh) (.slice B n1 m1) (.slice B' n1' m1') (.slice B'' n1'' m1''))
    obtain ⟨u0, u1, u2, u3, u4, u5, u6⟩ := HJ.out.cells
    obtain ⟨wf, hwf⟩ : ∃ wf, wf = (((((((w1.setCell ⟨w.heap.size + 2, 0, none⟩ (.int .i64 k)).setCell ⟨w.heap.size + 2, 1, none⟩ (.string nm)).setCell ⟨w.heap.size + 2, 2, none⟩ (.int .i64 nu)).setCell ⟨w.heap.size + 2, 3, none⟩ (.bool sh)).setCell ⟨w.heap.size + 2, 4, none⟩ (.slice B n1 m1)).setCell ⟨w.heap.size + 2, 5, none⟩ (.slice B' n1' m1')).setCell ⟨w.heap.size + 2, 6, none⟩ (.slice B'' n1'' m1'')) := ⟨_, rfl⟩
    rw [← hwf] at HO u0 u1 u2 u3 u4 u5 u6 ⊢
    clear hwf HJ
    refine bodyPost_ret (v := .agg #[.int .i64 k, .string nm, .int .i64 nu, .bool sh, .slice B n1 m1, .slice B' n1' m1', .slice B'' n1'' m1'']) (by simp [results, Tryz.results70, go_sem, u0, u1, u2, u3, u4, u5, u6]) rfl ?_
    have hr1 := HRR.out
    have hr2 := HGG.out
    refine ⟨(HA.out.then' HG.out).onto HO.out (fun g e => by cases e; omega), HR1.out.grown HO.out (by simp; omega) (by simp; omega), _, rfl, k, nm, nu, sh, B, n1, m1, B', n1', m1', B'', n1'', m1'', rfl, ?_⟩
    refine TreeV.stays.weaken (TreeV.stays.keep HT1.out (Keep.of_grown HO.out (fun b hb _ => ?_))) (fun b _ hb => ?_)
    · have : w.heap.size + 3 ≤ b := by have h : _ ≤ b := hb; rw [HZ.out] at h; exact h
      simp; omega
    · have : w.heap.size + 3 ≤ b := by have h : _ ≤ b := hb; rw [HZ.out] at h; exact h
      unfold from_; omega

theorem isSumB_lt {X : Tks} {j : Nat} (h : isSumB (X.tx j) = true) : j < X.ts.length := by
  by_cases c : j < X.ts.length
  · exact c
  · rw [Tks.tx_end (by omega)] at h
    unfold isSumB at h
    simp at h
set_option maxRecDepth 100000 in
set_option maxHeartbeats 4000000 in
theorem tSumAll {X : Tks} {R G c : Nat} {L : Int} {w : World} {i : Nat} (P : Nat → Res Tr) (h : RdAt X R G c w i)
    (hc : ∀ W j, RdAt X R G c W j → Calls Tryz.prog 70 #[.pointer (some ⟨R, 0, none⟩), .int .i64 L] W (Parsed X R G c (repT W) (P j) W)) :
    Calls Tryz.prog 58 #[.pointer (some ⟨R, 0, none⟩), .int .i64 L] w (Parsed X R G c (repT w) (chainS X P isSumB i) w) := by
  have hmf : ∀ (fn : Fn) (first cap : Array Value) (w : World), (Instr.makeFunc fn first cap).run Tryz.prog w = .ok (.func fn first cap) w := fun _ _ _ _ => rfl
  obtain ⟨W, hW⟩ : ∃ W, W = ((w.alloc (.cells #[.pointer (some ⟨R, 0, none⟩)] 59)).alloc (.cells #[.int .i64 L] 3)).alloc (.cells z7 47) := ⟨_, rfl⟩
  have b1 : OneAt 59 W w.heap.size (.pointer (some ⟨R, 0, none⟩)) := by rw [hW]; exact ((OneAt.new _ _ _).alloc _).alloc _
  have b2 : OneAt 3 W (w.heap.size + 1) (.int .i64 L) := by
    have := (OneAt.new 3 (w.alloc (.cells #[.pointer (some ⟨R, 0, none⟩)] 59)) (.int .i64 L)).alloc (.cells z7 47)
    rw [hW]; simpa using this
  have b3 : SevZ W (w.heap.size + 2) := by
    have := SevAt.new ((w.alloc (.cells #[.pointer (some ⟨R, 0, none⟩)] 59)).alloc (.cells #[.int .i64 L] 3)) (.int .i64 0) (.string ⟨#[]⟩) (.int .i64 0) (.bool false) (.slice none 0 0) (.slice none 0 0) (.slice none 0 0)
    rw [hW]; simpa using this
  have hA : w.grownBy W (some R) := by rw [hW]; exact ((World.grownBy_alloc _ _ _).then' (World.grownBy_alloc _ _ _)).then' (World.grownBy_alloc _ _ _)
  have hz : W.heap.size = w.heap.size + 3 := by rw [hW]; simp
  have hRW : RdAt X R G c W i := by rw [hW]; exact ((h.alloc _).alloc _).alloc _
  have HC := hide (tChain (w := W) P isSumB 68 69 #[.pointer (some ⟨w.heap.size, 0, none⟩), .pointer (some ⟨w.heap.size + 1, 0, none⟩)] (enters Tryz.func68 (by kernel_rfl) (by kernel_rfl)) (enters Tryz.func69 (by kernel_rfl) (by kernel_rfl)) tSum (fun _ h => isSumB_lt h)
    (fun W2 j hR2 hG2 => tSumOne (P j) (b1.grown hG2 (by have := h.ltR; simp; omega)) (b2.grown hG2 (by have := h.ltR; simp; omega)) hR2 (fun W3 h3 => hc W3 j h3)) hRW)
  have c1 := b1.cells.1
  have HA := hide hA
  have HZ := hide hz
  have HB3 := hide b3
  have HRR := hide h.ltR
  have HGG := hide h.lt
  have HCW : Hid (∀ e w', Parsed X R G c (repT W) (chainS X P isSumB i) W e w' → True) := fun _ _ _ => trivial
  clear b1 b2 b3 hA hz hRW h hc HCW
  obtain ⟨r, hr⟩ : ∃ r, r = chainS X P isSumB i := ⟨_, rfl⟩
  rw [← hr] at HC ⊢
  clear hr
  subst hW
  cases r with
  | bad T k =>
    unfold Parsed thrown faultV at *
    go_enter Tryz.func58, Tryz.ntmps58
    go_wp2_with (go_at_call 67; refine HC.out.mono ?_; rintro e w1 ⟨hg, rfl⟩; have HG := hide hg; clear hg)
    exact ⟨rfl, HA.out.then' HG.out, rfl⟩
  | ok t j =>
    go_enter Tryz.func58, Tryz.ntmps58
    go_wp2_with (go_at_call 67; refine HC.out.mono ?_; rintro e w1 ⟨hg, hr1, v, rfl, k, nm, nu, sh, B, n1, m1, B', n1', m1', B'', n1'', m1'', rfl, htr⟩; have HG := hide hg; have HR1 := hide hr1; have HT1 := hide htr; have HD1 := hide (HB3.out.grown hg (by have := HRR.out; simp; omega)); obtain ⟨f0, f1, f2, f3, f4, f5, f6⟩ := HD1.out.frozen; obtain ⟨p0, p1, p2, p3, p4, p5, p6⟩ := HD1.out.cells; clear hg hr1 htr)
    have HJ := hide ((HD1.out).put (.int .i64 k) (.string nm) (.int .i64 nu) (.bool sh) (.slice B n1 m1) (.slice B' n1' m1') (.slice B'' n1'' m1''))
    have HO := hide (SevAt.out w1 (w.heap.size + 2) (.int .i64 k) (.string nm) (.int .i64 nu) (.bool sh) (.slice B n1 m1) (.slice B' n1' m1') (.slice B'' n1'' m1''))
    obtain ⟨u0, u1, u2, u3, u4, u5, u6⟩ := HJ.out.cells
    obtain ⟨wf, hwf⟩ : ∃ wf, wf = (((((((w1.setCell ⟨w.heap.size + 2, 0, none⟩ (.int .i64 k)).setCell ⟨w.heap.size + 2, 1, none⟩ (.string nm)).setCell ⟨w.heap.size + 2, 2, none⟩ (.int .i64 nu)).setCell ⟨w.heap.size + 2, 3, none⟩ (.bool sh)).setCell ⟨w.heap.size + 2, 4, none⟩ (.slice B n1 m1)).setCell ⟨w.heap.size + 2, 5, none⟩ (.slice B' n1' m1')).setCell ⟨w.heap.size + 2, 6, none⟩ (.slice B'' n1'' m1'')) := ⟨_, rfl⟩
    rw [← hwf] at HO u0 u1 u2 u3 u4 u5 u6 ⊢
    clear hwf HJ
    refine bodyPost_ret (v := .agg #[.int .i64 k, .string nm, .int .i64 nu, .bool sh, .slice B n1 m1, .slice B' n1' m1', .slice B'' n1'' m1'']) (by simp [results, Tryz.results58, go_sem, u0, u1, u2, u3, u4, u5, u6]) rfl ?_
    have hr1 := HRR.out
    have hr2 := HGG.out
    refine ⟨(HA.out.then' HG.out).onto HO.out (fun g e => by cases e; omega), HR1.out.grown HO.out (by simp; omega) (by simp; omega), _, rfl, k, nm, nu, sh, B, n1, m1, B', n1', m1', B'', n1'', m1'', rfl, ?_⟩
    refine TreeV.stays.weaken (TreeV.stays.keep HT1.out (Keep.of_grown HO.out (fun b hb _ => ?_))) (fun b _ hb => ?_)
    · have : w.heap.size + 3 ≤ b := by have h : _ ≤ b := hb; rw [HZ.out] at h; exact h
      simp; omega
    · have : w.heap.size + 3 ≤ b := by have h : _ ≤ b := hb; rw [HZ.out] at h; exact h
      unfold from_; omega

end Go.Proofs.YtadhlnlcdljamaaGreatDoor.V
