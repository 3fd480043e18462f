/-
  order.Run: where something is wrong; the spots as they are handed on. order.inTurn on the list that order.spots hands back. order.Run where nothing is wrong: what its loop rests on. order.Run where nothing is wrong. order.Run: its contract. Contract: the law's alive. The law: OrderKeeps.
-/
import Derived.Test.YtoidgdbgpbcebaaK37
import Derived.Test.YtoidgdbgpbcebaaK38
import Derived.Test.YtoidgdbgpbcebaaK15
import Derived.Test.YtoidgdbgpbcebaaK18
import Derived.Test.YtoidgdbgpbcebaaK24
import Derived.Test.YtoidgdbgpbcebaaK11
import Derived.Deep.DeepCutAuto
namespace Go.Proofs.Ytoidgdbgpbcebaa.V
open Go Go.RowKit
set_option linter.unusedVariables false

theorem out_pt {W : World} {B : Nat} {v : Value} {l : List (Nat × List Int)} {f : Nat × List Int → Sp} (h : OutT W B v (l.map f)) (hl : l ≠ []) : ∃ (g cap : Nat) (us : List TW), v = .slice (some ⟨g, 0, none⟩) l.length cap ∧ B ≤ g ∧ l.length ≤ cap ∧ cap ≤ 9223372036854775807 ∧ us.length = l.length ∧ RowS W g l.length (wds (us.zip l)) ∧ ∀ x ∈ us.zip l, Lies B (fun V => TG V x.1 (f x.2)) W := by
  obtain ⟨us, h1, h2, h3⟩ := h
  rw [List.length_map] at h1
  have hpos := List.length_pos_iff.2 hl
  rcases h2.2 with ⟨_, e⟩ | ⟨g, cap, cur, e, e2, e3, e4, e5, e6, e7⟩
  · omega
  · have hat : ∀ j, j < l.length → wds (us.zip l) j = us[j]?.getD twD := fun j hj => by
      unfold wds
      have hj' : j < us.length := by omega
      rw [List.getElem?_eq_getElem (by rw [List.length_zip]; omega)]
      simp [hj']
    refine ⟨g, cap, us, by rw [← h1]; exact e, e2, by omega, by simpa [maxLen] using e5, h1, ⟨⟨cur, e3⟩, fun j hj i hi => ?_⟩, fun x hx => ?_⟩
    · rw [hat j hj]
      have hs : (us[j]?.getD twD).cs[i]? = some ((us[j]?.getD twD).cs[i]'(by simpa [TW.cs] using hi)) := Array.getElem?_eq_getElem _
      have := h2.cells (g := g) (by rw [e]; rfl) (j * 15 + i) _ ((flat_get us j i hi (by omega)).trans hs)
      rw [Go.WideShapes.add_plain] at this
      rw [hs, ← this]
      congr 2
      omega
    · obtain ⟨j, hj, rfl⟩ := List.mem_iff_getElem.1 hx
      rw [List.length_zip] at hj
      have hj1 : j < us.length := by omega
      have hj2 : j < l.length := by omega
      have := h3 j (by rw [List.length_map]; exact hj2)
      have e8 : us[j]?.getD twD = ((us.zip l)[j]'(by rw [List.length_zip]; omega)).1 := by simp [hj1]
      have e9 : (l.map f)[j]?.getD spDD = f ((us.zip l)[j]'(by rw [List.length_zip]; omega)).2 := by simp [hj2]
      rw [e8, e9] at this
      exact this
set_option maxRecDepth 100000 in
set_option maxHeartbeats 2000000 in
theorem oRun_bad1 (za : Option Addr) (zl zc : Nat) (zs : List Int) (ta : Option Addr) (tl tc : Nat) (ss : List Stm) (ma : Option Addr) (ml mc : Nat) (T : Tms) (mv xv : Value) (w : World) (hz : Ints w za zl zs) (hs : Stms w ta tl ss) (hT : TimesA w ma ml T) (hE : rightE zs ss T ≠ 0) :
    Calls Try.prog 8 #[.agg #[.slice za zl zc, .slice ta tl tc], .slice ma ml mc, mv, xv] w fun e w' => e = .returned (.tuple #[.slice none 0 0, .int .i64 (rightE zs ss T)]) ∧ Below w.heap.size w w' := by
  have B1 : Below w.heap.size w (w.alloc (.cells #[.slice za zl zc, .slice ta tl tc] 25)) := bl_new _
  have P0 := NsBlk.new w za zl zc ta tl tc
  obtain ⟨p0, p1⟩ := P0.cells
  have zn := P0.lt
  have HW := hide (spots_bad za zl zc zs ta tl tc ss ma ml mc T _ (hz.below B1) (hs.below B1) (hT.below B1) hE)
  obtain ⟨E, hEE⟩ : ∃ E, E = rightE zs ss T := ⟨_, rfl⟩
  rw [← hEE] at HW hE ⊢
  have hEb : (E != 0) = true := by simpa using hE
  have HB := hide B1
  clear hz hs hT P0 B1 hEE hE
  go_enter Try.func8, Try.ntmps8
  go_wp2_with fail
  refine HW.out.mono ?_
  rintro e w1 ⟨rfl, hb⟩
  have HB1 := hide (bl_on HB.out hb)
  clear hb
  go_wp2_with fail
  go_ret2
  exact ⟨rfl, HB1.out⟩
theorem run_nil {zs : List Int} {L : Mem} (hz : ∀ z ∈ zs, 0 ≤ z ∧ z ≤ 65536) : runE zs [] L = fitsE zs L := by
  unfold runE
  have : nestE zs [] = 0 := by
    unfold nestE
    rw [if_neg (by simp), any_none hz, if_neg (by simp)]
    rfl
  rw [this, if_neg (by simp)]
set_option maxRecDepth 100000 in
set_option maxHeartbeats 2000000 in
theorem oRun_bad2 (za : Option Addr) (zl zc : Nat) (zs : List Int) (ta : Option Addr) (tl tc : Nat) (ss : List Stm) (ma : Option Addr) (ml mc : Nat) (T : Tms) (a : Option Addr) (len cap : Nat) (L : Mem) (xv : Value) (w : World) (hz : Ints w za zl zs) (hs : Stms w ta tl ss) (hT : TimesA w ma ml T) (hA : MemA w a len L) (hE : rightE zs ss T = 0) (hF : fitsE zs L ≠ 0) :
    Calls Try.prog 8 #[.agg #[.slice za zl zc, .slice ta tl tc], .slice ma ml mc, .slice a len cap, xv] w fun e w' => e = .returned (.tuple #[.slice none 0 0, .int .i64 (fitsE zs L)]) ∧ Below w.heap.size w w' := by
  have B1 : Below w.heap.size w (w.alloc (.cells #[.slice za zl zc, .slice ta tl tc] 25)) := bl_new _
  have P0 := NsBlk.new w za zl zc ta tl tc
  obtain ⟨p0, p1⟩ := P0.cells
  have zn := P0.lt
  have hzz := (nestE_ok (rightE_ok hE).ord.nest).sizes
  have HW := hide (spots_good za zl zc zs ta tl tc ss ma ml mc T _ (hz.below B1) (hs.below B1) (hT.below B1) hE)
  have HNR := hide (fun V (hb : Below w.heap.size w V) => nestRun_no za zl zc zs none 0 0 [] a len cap L V (hz.below hb) ⟨rfl, by omega, .inl rfl⟩ (hA.below hb) (by rw [run_nil hzz]; exact hF))
  rw [run_nil hzz] at HNR
  obtain ⟨E, hEE⟩ : ∃ E, E = fitsE zs L := ⟨_, rfl⟩
  rw [← hEE] at HNR hF ⊢
  have hEb : (E != 0) = true := by simpa using hF
  have HB := hide B1
  have HP0 := hide P0
  clear hz hs hT P0 B1 hEE hE hA hF hzz
  go_enter Try.func8, Try.ntmps8
  go_wp2_with fail
  refine HW.out.mono ?_
  rintro e w1 ⟨⟨v, B, rfl, hB, hO⟩, hb⟩
  have HB1 := hide (bl_on HB.out hb)
  have P1 := HP0.out.below hb
  obtain ⟨q0, q1⟩ := P1.cells
  have zq := P1.lt
  clear hb P1 hO
  go_wp2_with fail
  refine (HNR.out w1 HB1.out).mono ?_
  rintro e w2 ⟨rfl, hb2⟩
  have HB2 := hide (bl_on HB1.out hb2)
  clear hb2
  go_wp2_with fail
  go_ret2
  exact ⟨rfl, bl_on HB2.out (bl_new _)⟩
end Go.Proofs.Ytoidgdbgpbcebaa.V
namespace Go.Proofs.Ytoidgdbgpbcebaa.V
open Go Go.Shelf Go.RowKit Go.Lib Go.Sort Go.Proofs Go.Proofs.Ytoidgdbgpbcebaa.S
set_option linter.unusedVariables false

set_option maxRecDepth 100000 in
set_option maxHeartbeats 4000000 in
theorem inTurn_nil (a : Option Addr) (cap : Nat) (hcap : cap ≤ 9223372036854775807) (xa : Option Addr) (xl xc : Nat) (w : World) :
    Calls Try.prog 19 #[.slice a 0 cap, .slice xa xl xc] w fun e w' => (∃ hh, e = .returned (.slice (some ⟨hh, 0, none⟩) 0 0) ∧ w.heap.size ≤ hh ∧ RowS w' hh 0 (wds [])) ∧ Below w.heap.size w w' := by
  obtain ⟨i0, hi, hz0, hz1, hz2⟩ := info_parts info_T
  go_enter Try.func19, Try.ntmps19
  go_wp2_with fail
  refine (sort_nil _ _ _ w).mono ?_
  rintro e w1 ⟨rfl, rfl⟩
  go_wp2_with fail
  refine (picker_any xa xl xc w1).mono ?_
  rintro e w2 ⟨rfl, -, -, hb2, hz2'⟩
  have HB2 := hide hb2
  clear hb2
  go_wp2_with (first | (at_make; refine wpList_make_own _ rfl _ _ 48 rfl w2.heap.size 59 i0 (.agg twD.cs) 15 Try.underlying48 hi hz0 hz1 .i64 .i64 _ 0 rfl rfl rfl (by rw [hz2]; omega) (by unfold maxLen; omega) (Nat.le_refl _) ?_; intro w3 hown hgr) | fail)
  have B3 : Below w2.heap.size w2 w3 := ⟨hgr.os, hgr.tape, hgr.output, hgr.size, fun i hi => hgr.block i hi (by simp)⟩
  have HR : Hid (RowS w3 w2.heap.size 0 (wds [])) := by
    refine ⟨?_, fun j hj => by omega⟩
    rcases hown.2 with ⟨e, _⟩ | ⟨g', cp, cur, e, _, e2, _, _, e5, _⟩
    · cases e
    · cases e
      exact ⟨cur, e2⟩
  have HB3 := hide (bl_on HB2.out B3)
  clear hown hgr B3 HB2
  go_loopw [0, 6] (fun va vo wr => va = .slice a 0 cap ∧ vo = .slice (some ⟨w2.heap.size, 0, none⟩) 0 0 ∧ wr = w3) (fun _ _ _ => 0)
  case atStart => exact ⟨rfl, rfl, rfl⟩
  case round =>
    obtain ⟨rfl, rfl, rfl⟩ := hrel
    go_wp2
    go_ret
    exact ⟨⟨_, rfl, by omega, HR.out⟩, HB3.out⟩
theorem Mems.memK {W V : World} {N g n : Nat} {R : Nat} {G C : Nat → Nat} {M : Mem} {us : Nat → TW} (h : Mems W N (some ⟨R, 0, none⟩) G C M) (hr : RowS W g n us) (hn : 0 < n) (hg : g < N) (k : Rw g W V) : Mems V N (some ⟨R, 0, none⟩) G C M := by
  have hat : ∀ b, b < W.heap.size → b ≠ g → V.heap[b]? = W.heap[b]? := fun b hb hne => k.grown.block b hb (fun e => hne (by cases e; rfl))
  refine ⟨?_, fun i hi => ?_, h.apart, h.lo, h.bd, h.small⟩
  · rcases h.head with h0 | ⟨b, off, e, h1⟩
    · exact .inl h0
    · cases e
      by_cases c : M.length = 0
      · exact .inl c
      · have hR : R ≠ g := fun e => by
          have c1 := (h1 0 (by omega)).1
          have c2 := hr.at_ 0 hn 0 (by omega)
          rw [e] at c1
          have e3 : ((us 0).cs[0]? : Option Value) = some (.int .i64 (us 0).stm) := rfl
          simp only [Nat.zero_mul, Nat.add_zero] at c1 c2
          rw [c2, e3] at c1
          cases c1
        refine .inr ⟨R, 0, rfl, fun i hi => ⟨?_, (h1 i hi).2⟩⟩
        have c1 := (h1 i hi).1
        exact (World.cell?_of_block (w := W) (w' := V) (a := ⟨R, 0 + i, none⟩) (hat R (lt_of_cell c1) hR)).trans c1
  · have hl := h.lo i hi
    exact (h.rows i hi).of_block (hat _ (h.rows i hi).lt (by omega))
theorem playL_nil (T : Tms) (mix : List Int) (n t : Nat) : playL T mix n t [] = [] := by
  cases n with
  | zero => rfl
  | succ n => unfold playL; rw [if_pos rfl]
/-- inTurn on the list that spots hands back; OB and the memory M lie beside. -/
theorem inTurn_all (T : Tms) (mix : List Int) (xa : Option Addr) (xl xc : Nat) (f : Nat × List Int → Sp) (l : List (Nat × List Int)) (v : Value) (B N0 N : Nat) (w1 W : World) (hO : OutT w1 B v (l.map f)) (h1 : Below w1.heap.size w1 W) (hB : N0 ≤ B) (hN0 : N0 ≤ W.heap.size) (hN : N = w1.heap.size) (hx : Ints W xa xl mix) (hxb : 0 < xl → ∀ b o, xa = some ⟨b, o, none⟩ → b < N0) (hf : ∀ p, (f p).tm = spT T p) (hl : l.length ≤ 1024)
    (R : Nat) (G C : Nat → Nat) (M : Mem) (hM : Mems W N (some ⟨R, 0, none⟩) G C M) (OB : Nat) (hOB : N ≤ OB) (hOB2 : OB < W.heap.size) :
    Calls Try.prog 19 #[v, .slice xa xl xc] W fun e w' => ∃ (hh : Nat) (D : List PT), e = .returned (.slice (some ⟨hh, 0, none⟩) l.length l.length) ∧ W.heap.size ≤ hh ∧ RowS w' hh l.length (wds D) ∧ D.length = l.length ∧ D.map (·.2) = playL T mix l.length 0 l ∧ (∀ x ∈ D, x.2 ∈ l ∧ Lies B (fun V => TG V x.1 (f x.2)) w') ∧ Mems w' N (some ⟨R, 0, none⟩) G C M ∧ w'.heap[OB]? = W.heap[OB]? ∧ Below N0 W w' := by
  by_cases hnil : l = []
  · subst hnil
    obtain ⟨us, e1, e2, e3⟩ := hO
    have hv : ∃ a cap, v = .slice a 0 cap ∧ cap ≤ 9223372036854775807 := by
      have e4 : us = [] := by simpa using e1
      subst e4
      rcases e2.2 with ⟨e, _⟩ | ⟨g, cap, cur, e, _, _, _, e5, _⟩
      · exact ⟨none, 0, e, by omega⟩
      · exact ⟨_, cap, e, by simpa [maxLen] using e5⟩
    obtain ⟨a, cap, rfl, hcap⟩ := hv
    refine (inTurn_nil a cap hcap xa xl xc W).mono ?_
    rintro e w' ⟨⟨hh, rfl, k1, k2⟩, hb⟩
    exact ⟨hh, [], rfl, k1, k2, rfl, by rw [playL_nil]; rfl, fun x hx => (by cases hx), hM.below hb, hb.block OB hOB2, hb.mono hN0⟩
  · obtain ⟨g, cap, us, rfl, k1, k2, k3, k4, k5, k6⟩ := out_pt hO hnil
    have hlen : (us.zip l).length = l.length := by rw [List.length_zip]; omega
    have hpos := List.length_pos_iff.2 hnil
    have hgl := k5.lt
    have k5' := k5.below h1
    have hsnd : (us.zip l).map (·.2) = l := List.map_snd_zip (by omega)
    have := inTurn_any T mix xa xl xc g cap (us.zip l) W (fun e => by rw [e] at hlen; simp at hlen; omega) (by rw [hlen]; exact k5') hx (fun q b o e => by have := hxb q b o e; omega) (by rw [hlen]; exact k2) k3 (by rw [hlen]; omega) (fun x hx => by have := (k6 x hx).out.tm; rw [this]; exact hf _)
    rw [hlen, hsnd] at this
    refine this.mono ?_
    rintro e w' ⟨hh, D, rfl, j1, j2, j3, j4, j5⟩
    obtain ⟨cur, hcur⟩ := k5'.blk
    refine ⟨hh, D, rfl, j1, j2, by rw [j4.length_eq, hlen], j3, fun x hx => ?_, hM.memK k5' hpos (by omega) j5, j5.grown.block OB hOB2 (fun e => by cases e; omega), j5.below (by omega) hN0⟩
    have hx' := j4.mem_iff.1 hx
    exact ⟨(List.of_mem_zip (a := x.1) (b := x.2) hx').2, ((k6 x hx').below h1).keep (j5.keepF hcur)⟩
end Go.Proofs.Ytoidgdbgpbcebaa.V
namespace Go.Proofs.Ytoidgdbgpbcebaa.V
open Go Go.RowKit Go.Shelf
set_option linter.unusedVariables false

theorem MemA.cells {W V : World} {a : Option Addr} {len : Nat} {L : Mem} (h : MemA W a len L) (hk : ∀ p v, W.cell? p = some v → V.cell? p = some v) : MemA V a len L := by
  obtain ⟨h1, h2, h3⟩ := h
  refine ⟨h1, h2, ?_⟩
  rcases h3 with h3 | ⟨b, off, e, h⟩
  · exact .inl h3
  · refine .inr ⟨b, off, e, fun i hi => ?_⟩
    obtain ⟨x, l, c, k1, ⟨k2, k3, k4, k5⟩, k6⟩ := h i hi
    refine ⟨x, l, c, hk _ _ k1, ⟨k2, k3, k4, ?_⟩, k6⟩
    rcases k5 with k5 | ⟨b2, o2, e2, h5⟩
    · exact .inl k5
    · exact .inr ⟨b2, o2, e2, fun j hj => hk _ _ (h5 j hj)⟩
/-- Blocks below N, but for OB, are as they were. -/
def ButN (N OB : Nat) (A B : World) : Prop := A.heap.size ≤ B.heap.size ∧ ∀ b, b < N → b ≠ OB → B.heap[b]? = A.heap[b]?
theorem ButN.trans {N OB : Nat} {A B C : World} (h : ButN N OB A B) (k : ButN N OB B C) : ButN N OB A C := ⟨Nat.le_trans h.1 k.1, fun b hb hn => (k.2 b hb hn).trans (h.2 b hb hn)⟩
theorem ButN.put {N OB : Nat} (W : World) (l : Nat) (o' : Obj) (hl : N ≤ l) : ButN N OB W (W.putObj l o') := ⟨by simp [World.putObj], fun b hb _ => World.putObj_heap_other (by omega)⟩
/-- What is so when some chunks are done. -/
def RInv (w W5 : World) (OB len : Nat) (Ms : Nat → Mem) (pre : List Value) (W : World) : Prop := ∃ A, MBox W OB A len len ∧ MemA W A len (Ms pre.length) ∧ ButFor OB W5 W ∧ Below w.heap.size w W
theorem RInv.own {w W5 : World} {OB len : Nat} {Ms : Nat → Mem} (hO : OB < W5.heap.size) (hw : w.heap.size ≤ W5.heap.size) : OwnFrom W5.heap.size (RInv w W5 OB len Ms) := by
  rintro s W W' row ⟨A, h1, h2, h3, h4⟩ hg hr
  have hat : ∀ b, b < W5.heap.size → W'.heap[b]? = W.heap[b]? := fun b hb => hg.block b (by have := h3.1; omega) (fun e => by have := (hr b e.symm).1; omega)
  refine ⟨A, (hat OB hO).trans h1, h2.cells (fun p v hv => ?_), ⟨Nat.le_trans h3.1 hg.size, fun b hb hn => (hat b hb).trans (h3.2 b hb hn)⟩, ?_⟩
  · obtain ⟨o, ho, hc⟩ := cells_of_cell hv
    refine (World.cell?_of_block (w := W) (w' := W') (hg.block p.block (lt_of_cell hv) (fun e => ?_))).trans hv
    obtain ⟨_, o', ho', hc'⟩ := hr p.block e.symm
    rw [ho] at ho'
    cases ho'
    rw [hc] at hc'
    cases hc'
  · exact h4.grown hg h4.size (fun k e => Nat.le_trans hw (hr k e).1)
theorem fit_of {zs : List Int} {L : Mem} (h : fitsE zs L = 0) : FitM zs L := by
  unfold fitsE at h
  by_cases c : L.length ≠ zs.length
  · rw [if_pos c] at h; omega
  rw [if_neg c] at h
  by_cases d : ((List.range L.length).any fun k => decide (((arrM L k).length : Int) ≠ zs[k]?.getD 0)) = true
  · rw [if_pos d] at h; omega
  refine ⟨by omega, fun k hk => ?_⟩
  have d2 : ((List.range L.length).any fun k => decide (((arrM L k).length : Int) ≠ zs[k]?.getD 0)) = false := by simpa using d
  rw [List.any_eq_false] at d2
  have := d2 k (by simpa using hk)
  simpa using this
theorem stms_val {w : World} {a : Option Addr} {len : Nat} {ss : List Stm} (h : Stms w a len ss) : ∀ s ∈ ss, B64 s.val := by
  obtain ⟨h1, h2, h3⟩ := h
  intro s hs
  obtain ⟨j, hj, rfl⟩ := List.mem_iff_getElem.1 hs
  rcases h3 with h0 | ⟨b, off, e, h4⟩
  · omega
  · obtain ⟨q, h5, _⟩ := h4 j (by omega)
    have e2 : ss[j]?.getD stmD = ss[j] := by simp [hj]
    rw [e2] at h5
    exact h5.bd.2
theorem chunk_at {h N : Nat} {pre post : List Value} {x : Value} (e : chunksV h N = pre ++ x :: post) : x = chunkV h N pre.length ∧ 256 * pre.length < N := by
  have h1 : (chunksV h N)[pre.length]? = some x := by rw [e]; simp
  have h2 : pre.length < (N + 255) / 256 := by
    have : (chunksV h N).length = (N + 255) / 256 := by unfold chunksV; simp
    rw [← this, e]
    simp
  unfold chunksV at h1
  rw [List.getElem?_map, List.getElem?_range h2] at h1
  simp only [Option.map_some, Option.some.injEq] at h1
  exact ⟨h1.symm, by omega⟩
def fChSt (m : Nat) (S : List Stm) : Fact := ⟨fun v w => ∃ R : Nat, v = .slice (some ⟨R, 0, none⟩) m m ∧ Stms w (some ⟨R, 0, none⟩) m S, false⟩
theorem fChSt_good (m : Nat) (S : List Stm) : (fChSt m S).Good := ⟨fun _ _ _ ⟨R, h1, h2⟩ hb => ⟨R, h1, h2.below hb⟩, fun h => by cases h⟩
def fChNe (za : Option Addr) (zl zc m : Nat) (S : List Stm) : Fact := ⟨fun v w => ∃ R : Nat, v = .agg #[.slice za zl zc, .slice (some ⟨R, 0, none⟩) m m] ∧ Stms w (some ⟨R, 0, none⟩) m S, false⟩
theorem fChNe_good (za : Option Addr) (zl zc m : Nat) (S : List Stm) : (fChNe za zl zc m S).Good := ⟨fun _ _ _ ⟨R, h1, h2⟩ hb => ⟨R, h1, h2.below hb⟩, fun h => by cases h⟩
/-- The spots of a chunk. -/
def segL (D : List PT) (j : Nat) : List (Nat × List Int) := ((D.map (·.2)).drop (256 * j)).take 256
theorem segL_len (D : List PT) (j : Nat) : (segL D j).length = min 256 (D.length - 256 * j) := by unfold segL; simp
theorem segL_take (D : List PT) (j : Nat) : (D.map (·.2)).take (256 * (j + 1)) = (D.map (·.2)).take (256 * j) ++ segL D j := by
  unfold segL
  rw [Nat.mul_add, Nat.mul_one, List.take_add]
theorem segL_at (D : List PT) (j i : Nat) (hi : i < (segL D j).length) : (segL D j)[i] = (D[256 * j + i]?.getD ptD).2 := by
  have hi' := hi
  rw [segL_len] at hi'
  unfold segL at hi ⊢
  rw [List.getElem_take, List.getElem_drop, List.getElem_map, List.getElem?_eq_getElem (by omega)]
  rfl
theorem segL_mem {D : List PT} {j : Nat} {p : Nat × List Int} (h : p ∈ segL D j) : ∃ x ∈ D, x.2 = p := by
  unfold segL at h
  have := List.mem_of_mem_drop (List.mem_of_mem_take h)
  rwa [List.mem_map] at this
theorem each_chunk (zs : List Int) (ss : List Stm) (T : Tms) (D : List PT) (hh N j : Nat) (U : World) (hr : RowS U hh N (wds D)) (hD : D.length = N) (hN : N ≤ 1024) (hj : 256 * j < N) (hg : ∀ x ∈ D, TG U x.1 (spOf zs ss T x.2) ∧ SpB (spOf zs ss T x.2) ∧ (spOf zs ss T x.2).gets.length ≤ 3) :
    Calls Try.prog 20 #[chunkV hh N j, .func (.func 21) #[] #[]] U fun e w' => (∃ R : Nat, e = .returned (.slice (some ⟨R, 0, none⟩) (min 256 (N - 256 * j)) (min 256 (N - 256 * j))) ∧ Stms w' (some ⟨R, 0, none⟩) (min 256 (N - 256 * j)) ((segL D j).map fun p => stmOf (spOf zs ss T p))) ∧ Below U.heap.size U w' := by
  refine (stmts_any hh N (256 * j) (min 256 (N - 256 * j)) _ (wds D) (fun i => spOf zs ss T (D[256 * j + i]?.getD ptD).2) U hr (by omega) (by omega) (fun i hi => ?_)).mono ?_
  · have hl : 256 * j + i < D.length := by omega
    have e1 : wds D (256 * j + i) = D[256 * j + i].1 := by unfold wds; simp [hl]
    have e2 : (D[256 * j + i]?.getD ptD).2 = D[256 * j + i].2 := by simp [hl]
    obtain ⟨g1, g2, g3⟩ := hg _ (List.getElem_mem hl)
    rw [e1, e2]
    refine ⟨g1, g2, ?_⟩
    have := g1.gets.1
    omega
  · rintro e w' ⟨⟨rfl, hl⟩, hb⟩
    refine ⟨⟨_, rfl, ?_⟩, hb⟩
    have := hl.out
    have e : (List.range (min 256 (N - 256 * j))).map (fun i => stmOf (spOf zs ss T (D[256 * j + i]?.getD ptD).2)) = (segL D j).map fun p => stmOf (spOf zs ss T p) := by
      refine List.ext_getElem (by simp [segL_len, hD]) (fun i h1 h2 => ?_)
      rw [List.getElem_map, List.getElem_map, List.getElem_range, segL_at]
    rwa [e] at this
/-- The memory when some chunks are done. -/
def chM (ss : List Stm) (D : List PT) (L : Mem) (k : Nat) : Mem := ((D.map (·.2)).take (256 * k)).foldl (spM ss) L
theorem chM_zero (ss : List Stm) (D : List PT) (L : Mem) : chM ss D L 0 = L := by unfold chM; simp
theorem run_chunk {zs : List Int} {ss : List Stm} (T : Tms) (hok : NestOk zs ss) {L : Mem} (hF : fitsE zs L = 0) (D : List PT) (hD : ∀ x ∈ D, x.2.1 < ss.length) (j : Nat) :
    runE zs ((segL D j).map fun p => stmOf (spOf zs ss T p)) (chM ss D L j) = 0 ∧ runM ((segL D j).map fun p => stmOf (spOf zs ss T p)) (chM ss D L j) = chM ss D L (j + 1) := by
  have hall : ∀ p ∈ (D.map (·.2)).take (256 * j), p.1 < ss.length := fun p hp => by
    have := List.mem_of_mem_take hp
    rw [List.mem_map] at this
    obtain ⟨x, hx, rfl⟩ := this
    exact hD x hx
  have hseg : ∀ p ∈ segL D j, p.1 < ss.length := fun p hp => by
    obtain ⟨x, hx, rfl⟩ := segL_mem hp
    exact hD x hx
  have hfit : FitM zs (chM ss D L j) := (run_spots T hok.stms _ L (fit_of hF) hall).2
  obtain ⟨h1, _⟩ := run_spots T hok.stms (segL D j) _ hfit hseg
  refine ⟨?_, ?_⟩
  · unfold runE
    rw [nest_zero T hok (segL D j) hseg (by rw [segL_len]; omega), if_neg (by simp)]
    exact hfit.zero
  · rw [h1]
    unfold chM
    rw [segL_take, List.foldl_append]
/-- A chunk is done: what is so then. -/
theorem RInv.next {w W5 W U w6 : World} {OB len : Nat} {Ms : Nat → Mem} {pre : List Value} {x : Value} {A A' : Option Addr} (hO : OB < W5.heap.size) (hOw : w.heap.size ≤ OB) (hbx : MBox W OB A len len) (hbut : ButFor OB W5 W) (hB : Below w.heap.size w W) (h1 : Below W.heap.size W U) (h2 : Below U.heap.size U w6) (hM : MemA (w6.setCell ⟨OB, 0, none⟩ (.slice A' len len)) A' len (Ms (pre.length + 1))) :
    KeepsFrom W5.heap.size W (w6.setCell ⟨OB, 0, none⟩ (.slice A' len len)) ∧ ButN W5.heap.size OB W (w6.setCell ⟨OB, 0, none⟩ (.slice A' len len)) ∧ RInv w W5 OB len Ms (pre ++ [x]) (w6.setCell ⟨OB, 0, none⟩ (.slice A' len len)) := by
  have hb := bl_on h1 h2
  have hbf : ButFor OB W (w6.setCell ⟨OB, 0, none⟩ (.slice A' len len)) := (ButFor.below hb).trans (ButFor.set _ _)
  have hW := hbut.1
  refine ⟨⟨hbf.1, fun k o hk hko _ => (hbf.2 k (lt_of_heap hko) (by omega)).trans hko⟩, ⟨hbf.1, fun b hb hn => hbf.2 b (by omega) hn⟩, A', (hbx.below hb).put _ _ _, ?_, hbut.trans hbf, ?_⟩
  · simpa using hM
  · exact (bl_on hB hb).setCell (p := ⟨OB, 0, none⟩) (by simpa using hOw) _
end Go.Proofs.Ytoidgdbgpbcebaa.V
namespace Go.Proofs.Ytoidgdbgpbcebaa.V
open Go Go.RowKit Go.Shelf
attribute [local go_sem] Oper.semAt_some
set_option linter.unusedVariables false

set_option maxRecDepth 100000 in
set_option maxHeartbeats 8000000 in
theorem oRun_ok (za : Option Addr) (zl zc : Nat) (zs : List Int) (ta : Option Addr) (tl tc : Nat) (ss : List Stm) (ma : Option Addr) (ml mc : Nat) (T : Tms) (a : Option Addr) (len cap : Nat) (L : Mem) (xa : Option Addr) (xl xc : Nat) (mix : List Int) (w : World) (hz : Ints w za zl zs) (hs : Stms w ta tl ss) (hT : TimesA w ma ml T) (hA : MemA w a len L) (hb24 : len * 24 ≤ 140737488355328) (hx : Ints w xa xl mix) (hE : rightE zs ss T = 0) (hF : fitsE zs L = 0) :
    CallsIn FW 9 Try.prog 8 #[.agg #[.slice za zl zc, .slice ta tl tc], .slice ma ml mc, .slice a len cap, .slice xa xl xc] w fun e w' => (∃ A n c, e = .returned (.tuple #[.slice A n c, .int .i64 0]) ∧ MemA w' A n ((playL T mix (spK ss ss.length).length 0 (spK ss ss.length)).foldl (spM ss) L)) ∧ Below w.heap.size w w' := by
  have hro : FW.round = none := rfl
  have B1 : Below w.heap.size w (w.alloc (.cells #[.slice za zl zc, .slice ta tl tc] 25)) := bl_new _
  have P0 := NsBlk.new w za zl zc ta tl tc
  obtain ⟨p0, p1⟩ := P0.cells
  have zn := P0.lt
  have hR := rightE_ok hE
  have hok := nestE_ok hR.ord.nest
  have hzz := hok.sizes
  have HW := hide (spots_good za zl zc zs ta tl tc ss ma ml mc T _ (hz.below B1) (hs.below B1) (hT.below B1) hE)
  have HNR := hide (fun V (hb : Below w.heap.size w V) => callsIn_wide.1 (nestRun_ok za zl zc zs none 0 0 [] a len cap L V (hz.below hb) ⟨rfl, by omega, .inl rfl⟩ (hA.below hb) (by omega) (by rw [run_nil hzz]; exact hF)))
  have HB := hide B1
  have HP0 := hide P0
  have HZ := hide hz
  have HA := hide hA
  have HXX := hide hx
  have HOK := hide hok
  have HF := hide hF
  have HS := hide hs
  obtain ⟨l, hl⟩ : ∃ l, l = spK ss ss.length := ⟨_, rfl⟩
  have HFEW : Hid (l.length ≤ 1024) := by rw [hl]; exact hR.few
  have HFST : Hid (∀ p ∈ l, p.1 < ss.length) := fun p hp => by rw [hl] at hp; exact spK_fst ss ss.length p hp
  rw [← hl] at HW ⊢
  clear hz hs hT P0 B1 hE hA hF hzz hok hR hx hl
  refine callsIn_of_wp_marks Try.func8 rfl trivial ?_ hro
  simp only [Try.ntmps8, List.size_toArray, List.length_cons, List.length_nil, Nat.reduceAdd, Nat.reduceSub, Array.replicate_succ, Array.replicate_zero, List.push_toArray, List.append_toArray, List.nil_append, List.cons_append]
  gi_wp2_with fail
  refine ⟨trivial, ?_⟩
  refine (callsIn_wide.2 HW.out).mono ?_
  rintro e w1 ⟨⟨v, B, rfl, hB, hO⟩, hb⟩
  have HO := hide hO
  have HB1 := hide (bl_on HB.out hb)
  have P1 := HP0.out.below hb
  have hBw : w.heap.size < B := by have := HP0.out.lt; omega
  obtain ⟨q0, q1⟩ := P1.cells
  have zq := P1.lt
  have HP1 := hide P1
  clear hb P1 hO p0 p1 zn HW HB HP0
  gi_wp2_with fail
  refine ⟨trivial, ?_⟩
  refine (callsIn_wide.2 (HNR.out w1 HB1.out)).mono ?_
  rintro e w2 ⟨⟨R, G, C, rfl, hM⟩, hb2⟩
  have HB2 := hide (bl_on HB1.out hb2)
  have HB12 := hide hb2
  have HM2 := hide hM
  have HP2 := hide (HP1.out.below hb2)
  have z12 := hb2.size
  clear hb2 hM q0 q1 HNR
  gi_wp2_with fail
  refine ⟨trivial, ?_⟩
  obtain ⟨W3, hW3⟩ : ∃ W3, W3 = w2.alloc (.cells #[.slice (some ⟨R, 0, none⟩) len len] 28) := ⟨_, rfl⟩
  have B23 : Below w2.heap.size w2 W3 := by rw [hW3]; exact bl_new _
  have hOB3 : W3.heap[w2.heap.size]? = some (.cells #[.slice (some ⟨R, 0, none⟩) len len] 28 (0, 0)) := by rw [hW3]; exact World.alloc_heap_new _ _
  rw [← hW3]
  have HB3 := hide (bl_on HB2.out B23)
  have hOs := lt_of_heap hOB3
  have HP3 := hide (HP2.out.below B23)
  refine (callsIn_wide.2 (inTurn_all T mix xa xl xc (spOf zs ss T) l v B (w.heap.size + 1) w1.heap.size w1 W3 HO.out (bl_on HB12.out B23) (by omega) (by omega) rfl (HXX.out.below HB3.out) (fun q b o e => ?_) (fun p => rfl) HFEW.out R G C (runM [] L) (HM2.out.below B23) w2.heap.size z12 hOs)).mono ?_
  · obtain ⟨b2, off, e2, h5⟩ := HXX.out.2.2.2.resolve_left (by omega)
    rw [e] at e2
    cases e2
    have := lt_of_cell (h5 0 q)
    simp only at this
    omega
  rintro e w4 ⟨hh, D, rfl, hh3, hrow, hDl, hDm, hDT, hM4, hO4, hb4⟩
  have HP4 : Hid (NsBlk w4 w.heap.size za zl zc ta tl tc) := (hb4.block _ (by omega)).trans HP3.out
  have HB4 := hide (HB3.out.trans (hb4.mono (by omega)))
  have HBX4 : Hid (MBox w4 w2.heap.size (some ⟨R, 0, none⟩) len len) := hO4.trans hOB3
  have z34 := hb4.size
  have HMM4 := hide (hM4.memA (show (runM [] L).length = len from HA.out.1) HA.out.2.1)
  have HROW4 := hide hrow
  have HDT := hide hDT
  have HDM := hide hDm
  have HDL := hide hDl
  clear hrow hDl hDm hDT hM4 hO4 hb4 hOB3 B23 HP3 HP2 HB2 HB12 HM2 hW3
  gi_wp2_with fail
  refine ⟨trivial, ?_⟩
  refine (callsIn_wide.2 (chunk_any _ _ _ w4)).mono ?_
  rintro e W5 ⟨rfl, hW5⟩
  have B45 : Below w4.heap.size w4 W5 := by rw [hW5]; exact bl_on (bl_new _) (bl_new _)
  have HP5 := hide (HP4.out.below B45)
  have HB5 := hide (bl_on HB4.out B45)
  have HBX5 := hide (HBX4.out.below B45)
  have HMM5 := hide (HMM4.out.below B45)
  have HROW5 := hide (HROW4.out.below B45)
  have HDT5 : Hid (∀ x ∈ D, x.2 ∈ l ∧ Lies B (fun V => TG V x.1 (spOf zs ss T x.2)) W5) := fun x hx => ⟨(HDT.out x hx).1, (HDT.out x hx).2.below B45⟩
  have hs5 : W5.heap.size = w4.heap.size + 2 := by rw [hW5]; simp
  have HC1 : Hid (W5.heap[w4.heap.size]? = some (.cells #[.slice (some ⟨hh, 0, none⟩) l.length l.length] 48 (0, 0))) := by
    rw [hW5]; exact (Below.heap_alloc _ _ _ (by simp)).trans (World.alloc_heap_new _ _)
  have HC2 : Hid (W5.heap[w4.heap.size + 1]? = some (.cells #[.int .i64 256] 3 (0, 0))) := by
    rw [hW5]
    have := World.alloc_heap_new (w4.alloc (.cells #[.slice (some ⟨hh, 0, none⟩) l.length l.length] 48)) (.cells #[.int .i64 256] 3)
    rwa [World.size_alloc] at this
  have hO4 := HBX4.out.lt
  clear B45 hW5 HP4 HB4 HBX4 HMM4 HROW4 HDT
  gi_wp2_with fail
  refine rangeFunc_vals (F := FW) (n := 9) hro (by omega) (gf := 48) (lb := #[.pointer (some ⟨w4.heap.size, 0, none⟩), .pointer (some ⟨w4.heap.size + 1, 0, none⟩)]) rfl trivial (enters_of Try.func48 (by kernel_rfl) rfl)
    (L := chunksV hh l.length) (Kp := ButN W5.heap.size w2.heap.size)
    (chunk1_tells 8 (by omega) w4.heap.size (w4.heap.size + 1) hh l.length (by have := HFEW.out; omega) (ButN W5.heap.size w2.heap.size) (ButFor w2.heap.size W5) (fun A hA => ⟨cell_of_one ((hA.2 _ (by omega) (by omega)).trans HC1.out), cell_of_one ((hA.2 _ (by omega) (by omega)).trans HC2.out)⟩) (fun A A' hA hb => hA.trans (ButFor.below hb)) (fun A A' hk => hk.1) (fun A A' hk hA => ⟨Nat.le_trans hA.1 hk.1, fun b hb hn => (hk.2 b hb hn).trans (hA.2 b hb hn)⟩) W5 (ButFor.refl _ _))
    (fun h1 h2 => h1.trans h2) (fun W l o o' hl ho hc _ => ButN.put W l o' hl) (Below.refl _ _) rfl
    (RInv w W5 w2.heap.size len (chM ss D L)) (fun _ _ => False)
    (RInv.own (by omega) HB5.out.size) (fun _ _ _ _ hs _ _ => hs) ⟨_, HBX5.out, (by rw [List.length_nil, chM_zero]; exact HMM5.out), ButFor.refl _ _, HB5.out⟩ ?a1 ?assign ?body ?done ?stop
  case assign =>
    intro l gx W K hK
    gi_wp2
    exact hK
  case stop =>
    rintro D c W _ h _
    exact h.elim
  case done =>
    rintro DD W hD hI hK
    have hI2 := (RInv.own (w := w) (len := len) (Ms := chM ss D L) (by omega) HB5.out.size).putObj (.deferred none) hI hD hK rfl
    obtain ⟨A, hb, _, _, _⟩ := hI
    obtain ⟨A2, hb2, hM2, _, hBB2⟩ := hI2
    have hA2 : A2 = A := by
      have h1 : (W.putObj DD (.deferred none)).heap[w2.heap.size]? = W.heap[w2.heap.size]? := World.putObj_heap_other (by omega)
      unfold MBox at hb hb2
      rw [h1, hb] at hb2
      simp only [Option.some.injEq, Obj.cells.injEq] at hb2
      have h3 := congrArg (fun a : Array Value => a[0]?) hb2.1
      simpa using h3.symm
    subst hA2
    have hcC := hb.cell
    have HK := hide hK
    have HM : Hid (MemA (W.putObj DD (.deferred none)) A2 len ((playL T mix l.length 0 l).foldl (spM ss) L)) := by
      have e : chM ss D L (chunksV hh l.length).length = (playL T mix l.length 0 l).foldl (spM ss) L := by
        unfold chM
        rw [List.take_of_length_le (by have := HDL.out; unfold chunksV; simp; omega), HDM.out]
      rw [Hid, ← e]
      exact hM2
    have HBB := hide hBB2
    clear hb hb2 hM2 hBB2 hK
    gi_wp2
    refine ⟨by simp, .inl ⟨_, _, rfl, run_takeDeferred HK.out, ?_⟩⟩
    exact ⟨_, results_tmp2 rfl _ _ _, ⟨A2, len, len, rfl, HM.out⟩, HBB.out⟩
  case body =>
    rintro lp pre x post W hL ⟨A, hbx, hM, hbut, hB⟩
    obtain ⟨hx, hj⟩ := chunk_at hL
    obtain ⟨j, hjj⟩ : ∃ j, j = pre.length := ⟨_, rfl⟩
    rw [← hjj] at hx hj hM
    obtain ⟨hr1, hr2⟩ := run_chunk T HOK.out HF.out D (fun y hy => HFST.out _ (HDT5.out y hy).1) j
    have HEA := hide (fun U (hb : Below W.heap.size W U) => each_chunk zs ss T D hh l.length j U ((HROW5.out.but hbut (by omega)).below hb) HDL.out HFEW.out hj (fun y hy => ⟨((HDT5.out y hy).2.out.but HBX5.out hbut).below hb, sp_b T HOK.out (by rw [HZ.out.1]; exact HZ.out.2.1) (stms_val HS.out) y.2 (HFST.out _ (HDT5.out y hy).1), gets_len HOK.out T y.2⟩))
    rw [← hx] at HEA
    obtain ⟨m, hm⟩ : ∃ m, m = min 256 (l.length - 256 * j) := ⟨_, rfl⟩
    obtain ⟨S, hS⟩ : ∃ S, S = (segL D j).map fun p => stmOf (spOf zs ss T p) := ⟨_, rfl⟩
    rw [← hm, ← hS] at HEA
    rw [← hS] at hr1 hr2
    have HRN := hide (fun (U : World) (R : Nat) (hb : Below W.heap.size W U) (hs : Stms U (some ⟨R, 0, none⟩) m S) => nestRun_put za zl zc zs (some ⟨R, 0, none⟩) m m S A len len _ U (HZ.out.below (bl_on hB hb)) hs (hM.below hb) (by omega) hr1 w2.heap.size len len (hbx.below hb))
    rw [hr2] at HRN
    have HNX := hide (fun (U w6 : World) (A' : Option Addr) (h1 : Below W.heap.size W U) (h2 : Below U.heap.size U w6) hM => RInv.next (Ms := chM ss D L) (pre := pre) (x := x) (A' := A') (by omega) (by omega) hbx hbut hB h1 h2 hM)
    rw [← hjj] at HNX
    have cO := hbx.cell
    have hns : NsBlk W w.heap.size za zl zc ta tl tc := (hbut.2 _ (by omega) (by omega)).trans HP5.out
    obtain ⟨n0, n1⟩ := hns.cells
    have zO := hbx.lt
    have zN := hns.lt
    have HBX := hide hbx
    clear hx hj hr1 hr2 hM hbut hB hL hbx hns hm hS hjj
    gi_wp2_with fail
    refine region_madeIn 6 11 [fIs (.pointer (some ⟨w.heap.size, 0, none⟩)), fIs (.slice za zl zc), fIs x, fChSt m S, fChNe za zl zc m S, fIs (.slice A len len)] (by kernel_rfl) (by kernel_rfl) (by kernel_rfl) (by kernel_rfl) (fun ⟨_, _, h⟩ => h) (fun _ ⟨_, _⟩ ⟨_, _⟩ _ e h => by cases e; exact h) ⟨fIs_good _, fIs_good _, fIs_good _, fChSt_good _ _, fChNe_good _ _ _ _ _, fIs_good _, trivial⟩ ?mk ?rest
    case mk =>
      refine ⟨fun u wz hb hd => ?_, fun u wz hb hd => ?_, fun u wz hb hd => ?_, fun u wz hb hd => ?_, fun u wz hb hd => ?_, fun u wz hb hd => ?_, trivial⟩
      all_goals simp only [Act.put, List.setIfInBounds_toArray, List.set_cons_zero, List.set_cons_succ]
      · go_simp
        exact ⟨rfl, Below.refl _ _, fun h => by cases h⟩
      · have e0 : u 0 = .pointer (some ⟨w.heap.size, 0, none⟩) := hd 0 (by omega) (by kernel_rfl)
        rw [e0]
        have n0' := (hb.cell (p := ⟨w.heap.size, 0, none⟩) (lt_of_cell n0)).trans n0
        go_simp
        exact ⟨rfl, Below.refl _ _, fun h => by cases h⟩
      · go_simp
        exact ⟨rfl, Below.refl _ _, fun h => by cases h⟩
      · have e2 : u 2 = x := hd 2 (by omega) (by kernel_rfl)
        rw [e2]
        go_simp
        refine (HEA.out wz hb).mono ?_
        rintro e w6 ⟨⟨R, rfl, hl⟩, hb2⟩
        exact ⟨⟨R, rfl, hl⟩, hb2, fun h => by cases h⟩
      · have e1 : u 1 = .slice za zl zc := hd 1 (by omega) (by kernel_rfl)
        obtain ⟨R3, e3, h3⟩ := hd 3 (by omega) (by kernel_rfl)
        rw [e1, e3]
        go_simp
        exact ⟨⟨R3, rfl, h3⟩, Below.refl _ _, fun h => by cases h⟩
      · have cO' := (hb.cell (p := ⟨w2.heap.size, 0, none⟩) (lt_of_cell cO)).trans cO
        go_simp
        exact ⟨rfl, Below.refl _ _, fun h => by cases h⟩
    case rest =>
      intro u wz hb hf hp
      have f0 : u 0 = .pointer (some ⟨w.heap.size, 0, none⟩) := hf 0 (by omega)
      have f1 : u 1 = .slice za zl zc := hf 1 (by omega)
      have f2 : u 2 = x := hf 2 (by omega)
      obtain ⟨R3, f3, _⟩ := hf 3 (by omega)
      obtain ⟨R4, f4, h4⟩ := hf 4 (by omega)
      have f5 : u 5 = .slice A len len := hf 5 (by omega)
      simp only [List.take, putOps, Act.put, List.setIfInBounds_toArray, List.set_cons_zero, List.set_cons_succ, Nat.reduceAdd, f0, f1, f2, f3, f4, f5]
      clear f0 f1 f2 f3 f4 f5 hf hp
      have H4 := hide h4
      have HBZ := hide hb
      clear h4 hb
      refine UptoW.one 6 (by kernel_rfl) (by kernel_rfl) rfl rfl (.inl ?_)
      go_simp
      refine (HRN.out wz R4 HBZ.out H4.out).mono ?_
      rintro e w6 ⟨⟨A', rfl, _, hM6⟩, hb6⟩
      have hbx6 := HBX.out.below (bl_on HBZ.out hb6)
      have c6 := hbx6.cell
      have fz6 := hbx6.free
      have z6 := hbx6.lt
      have HN := hide (HNX.out wz w6 A' HBZ.out hb6 hM6)
      clear hM6 hb6 hbx6
      simp only
      refine UptoW.one 7 (by kernel_rfl) (by kernel_rfl) rfl rfl (.inl ?_)
      go_simp
      refine UptoW.three 8 rfl rfl rfl rfl rfl rfl rfl (by kernel_rfl) (by kernel_rfl) (by kernel_rfl) (by kernel_rfl) (by kernel_rfl) (by kernel_rfl) (by kernel_rfl) (by kernel_rfl) (by kernel_rfl) ?_ ?_
      · go_simp
        refine ⟨?_, ?_⟩
        · go_wp2
          exact HN.out
        · go_wp2
          exact HN.out
      · go_wp2
        exact HN.out
end Go.Proofs.Ytoidgdbgpbcebaa.V
namespace Go.Proofs.Ytoidgdbgpbcebaa.V
open Go.RowKit

theorem oRun_any (za : Option Addr) (zl zc : Nat) (zs : List Int) (ta : Option Addr) (tl tc : Nat) (ss : List Stm) (ma : Option Addr) (ml mc : Nat) (T : Tms) (a : Option Addr) (len cap : Nat) (L : Mem) (xa : Option Addr) (xl xc : Nat) (mix : List Int) (w : World) (hz : Ints w za zl zs) (hs : Stms w ta tl ss) (hT : TimesA w ma ml T) (hA : MemA w a len L) (hb24 : len * 24 ≤ 140737488355328) (hx : Ints w xa xl mix) :
    Calls Try.prog 8 #[.agg #[.slice za zl zc, .slice ta tl tc], .slice ma ml mc, .slice a len cap, .slice xa xl xc] w fun e w' => (∃ A n c, e = .returned (.tuple #[.slice A n c, .int .i64 (ordRunE zs ss T L)]) ∧ MemA w' A n (ordM zs ss T mix L)) ∧ Below w.heap.size w w' := by
  by_cases h1 : rightE zs ss T = 0
  · by_cases h2 : fitsE zs L = 0
    · have e : ordRunE zs ss T L = 0 := by unfold ordRunE; rw [if_neg (by simpa using h1)]; exact h2
      unfold ordM
      rw [if_pos e, e]
      exact callsIn_wide.1 (oRun_ok za zl zc zs ta tl tc ss ma ml mc T a len cap L xa xl xc mix w hz hs hT hA hb24 hx h1 h2)
    · have e : ordRunE zs ss T L = fitsE zs L := by unfold ordRunE; rw [if_neg (by simpa using h1)]
      unfold ordM
      rw [if_neg (by rw [e]; exact h2), e]
      refine (oRun_bad2 za zl zc zs ta tl tc ss ma ml mc T a len cap L _ w hz hs hT hA h1 h2).mono ?_
      rintro e w' ⟨rfl, hb⟩
      exact ⟨⟨none, 0, 0, rfl, rfl, by omega, .inl rfl⟩, hb⟩
  · have e : ordRunE zs ss T L = rightE zs ss T := by unfold ordRunE; rw [if_pos (by simpa using h1)]
    unfold ordM
    rw [if_neg (by rw [e]; exact h1), e]
    refine (oRun_bad1 za zl zc zs ta tl tc ss ma ml mc T _ _ w hz hs hT h1).mono ?_
    rintro e w' ⟨rfl, hb⟩
    exact ⟨⟨none, 0, 0, rfl, rfl, by omega, .inl rfl⟩, hb⟩
end Go.Proofs.Ytoidgdbgpbcebaa.V
namespace Go.Proofs.Ytoidgdbgpbcebaa.V
open Go.RowKit
set_option linter.unusedVariables false

def aliveS : Stm := ⟨[], [], 1, 7, (0, ([], 0)), []⟩
theorem alive_E : ordRunE [1] [aliveS] [[]] [[0]] = 0 := by decide +kernel
theorem alive_M : ordM [1] [aliveS] [[]] [] [[0]] = [[7]] := by decide +kernel
set_option maxRecDepth 100000 in
set_option maxHeartbeats 4000000 in
theorem alive11_ok (w : World) : Calls Try.prog 11 #[] w fun e w' => e = .returned (.bool true) ∧ Below w.heap.size w w' := by
  obtain ⟨W, hW⟩ : ∃ W, W = ((((w.alloc (.cells #[.int .i64 1] 3)).alloc (.cells #[.slice none 0 0, .slice none 0 0, .int .i64 1, .int .i64 7, .int .i64 0, .slice none 0 0, .int .i64 0, .slice none 0 0] 71)).alloc (.cells #[.slice none 0 0] 62)).alloc (.cells #[.int .i64 0] 2)).alloc (.cells #[.slice (some ⟨w.heap.size + 1 + 1 + 1, 0, none⟩) 1 1] 82) := ⟨_, rfl⟩
  have BW : Below w.heap.size w W := by rw [hW]; exact bl_on (bl_new _) (bl_on (bl_new _) (bl_on (bl_new _) (bl_on (bl_new _) (bl_new _))))
  have G0 : W.heap[w.heap.size]? = some (.cells #[.int .i64 1] 3 (0, 0)) := by
    rw [hW]
    exact (Below.heap_alloc _ _ _ (by simp <;> omega)).trans ((Below.heap_alloc _ _ _ (by simp <;> omega)).trans ((Below.heap_alloc _ _ _ (by simp <;> omega)).trans ((Below.heap_alloc _ _ _ (by simp)).trans (World.alloc_heap_new w _))))
  have G1 : W.heap[w.heap.size + 1]? = some (.cells #[.slice none 0 0, .slice none 0 0, .int .i64 1, .int .i64 7, .int .i64 0, .slice none 0 0, .int .i64 0, .slice none 0 0] 71 (0, 0)) := by
    rw [hW]
    refine (Below.heap_alloc _ _ _ (by simp <;> omega)).trans ((Below.heap_alloc _ _ _ (by simp <;> omega)).trans ((Below.heap_alloc _ _ _ (by simp)).trans ?_))
    have := World.alloc_heap_new (w.alloc (.cells #[.int .i64 1] 3)) (.cells #[.slice none 0 0, .slice none 0 0, .int .i64 1, .int .i64 7, .int .i64 0, .slice none 0 0, .int .i64 0, .slice none 0 0] 71)
    rw [World.size_alloc] at this
    exact this
  have G2 : W.heap[w.heap.size + 1 + 1]? = some (.cells #[.slice none 0 0] 62 (0, 0)) := by
    rw [hW]
    refine (Below.heap_alloc _ _ _ (by simp <;> omega)).trans ((Below.heap_alloc _ _ _ (by simp)).trans ?_)
    have := World.alloc_heap_new ((w.alloc (.cells #[.int .i64 1] 3)).alloc (.cells #[.slice none 0 0, .slice none 0 0, .int .i64 1, .int .i64 7, .int .i64 0, .slice none 0 0, .int .i64 0, .slice none 0 0] 71)) (.cells #[.slice none 0 0] 62)
    rw [World.size_alloc, World.size_alloc] at this
    exact this
  have G3 : W.heap[w.heap.size + 1 + 1 + 1]? = some (.cells #[.int .i64 0] 2 (0, 0)) := by
    rw [hW]
    refine (Below.heap_alloc _ _ _ (by simp)).trans ?_
    have := World.alloc_heap_new (((w.alloc (.cells #[.int .i64 1] 3)).alloc (.cells #[.slice none 0 0, .slice none 0 0, .int .i64 1, .int .i64 7, .int .i64 0, .slice none 0 0, .int .i64 0, .slice none 0 0] 71)).alloc (.cells #[.slice none 0 0] 62)) (.cells #[.int .i64 0] 2)
    rw [World.size_alloc, World.size_alloc, World.size_alloc] at this
    exact this
  have G4 : W.heap[w.heap.size + 1 + 1 + 1 + 1]? = some (.cells #[.slice (some ⟨w.heap.size + 1 + 1 + 1, 0, none⟩) 1 1] 82 (0, 0)) := by
    rw [hW]
    have := World.alloc_heap_new ((((w.alloc (.cells #[.int .i64 1] 3)).alloc (.cells #[.slice none 0 0, .slice none 0 0, .int .i64 1, .int .i64 7, .int .i64 0, .slice none 0 0, .int .i64 0, .slice none 0 0] 71)).alloc (.cells #[.slice none 0 0] 62)).alloc (.cells #[.int .i64 0] 2)) (.cells #[.slice (some ⟨w.heap.size + 1 + 1 + 1, 0, none⟩) 1 1] 82)
    rw [World.size_alloc, World.size_alloc, World.size_alloc, World.size_alloc] at this
    exact this
  have hno : ∀ (w : World), Ints w none 0 [] := fun w => ⟨rfl, by omega, fun x h => (by simp at h), .inl rfl⟩
  have hz : Ints W (some ⟨w.heap.size, 0, none⟩) 1 [1] := ⟨rfl, by omega, fun x h => (by simp at h; omega), .inr ⟨_, _, rfl, fun j hj => by obtain rfl : j = 0 := (by omega); simp [World.cell?, G0]⟩⟩
  have hs : Stms W (some ⟨w.heap.size + 1, 0, none⟩) 1 [aliveS] := by
    refine ⟨rfl, by omega, .inr ⟨_, _, rfl, fun j hj => ?_⟩⟩
    obtain rfl : j = 0 := by omega
    refine ⟨⟨none, 0, 0, none, 0, 0, 1, 7, ⟨0, none, 0, 0, 0⟩, none, 0, 0⟩, ⟨⟨hno _, Nat.le_refl _, fun _ => rfl⟩, ⟨rfl, Nat.zero_le _, .inl rfl⟩, rfl, rfl, ⟨rfl, rfl, hno _, ⟨Nat.le_refl _, fun _ => rfl⟩, by simp [aliveS, B64], by simp [aliveS, B64]⟩, ⟨rfl, Nat.zero_le _, .inl rfl⟩, by simp [aliveS, B64], by simp [aliveS, B64]⟩, ?_⟩
    simp [World.cell?, G1]
  have hT : TimesA W (some ⟨w.heap.size + 1 + 1, 0, none⟩) 1 [[]] := ⟨rfl, by omega, .inr ⟨_, _, rfl, fun i hi => by obtain rfl : i = 0 := (by omega); exact ⟨none, 0, 0, by simp [World.cell?, G2], ⟨rfl, by omega, .inl rfl⟩⟩⟩⟩
  have hL : Ints W (some ⟨w.heap.size + 1 + 1 + 1, 0, none⟩) 1 [0] := ⟨rfl, by omega, fun x h => (by simp at h; omega), .inr ⟨_, _, rfl, fun j hj => by obtain rfl : j = 0 := (by omega); simp [World.cell?, G3]⟩⟩
  have c4 : W.cell? ⟨w.heap.size + 1 + 1 + 1 + 1, 0, none⟩ = some (.slice (some ⟨w.heap.size + 1 + 1 + 1, 0, none⟩) 1 1) := by simp [World.cell?, G4]
  have hA : MemA W (some ⟨w.heap.size + 1 + 1 + 1 + 1, 0, none⟩) 1 [[0]] := by
    refine ⟨rfl, by omega, .inr ⟨_, _, rfl, fun i hi => ?_⟩⟩
    obtain rfl : i = 0 := by omega
    exact ⟨_, 1, 1, c4, hL, Nat.le_refl _, fun e => by cases e⟩
  have HC := hide (oRun_any (some ⟨w.heap.size, 0, none⟩) 1 1 [1] (some ⟨w.heap.size + 1, 0, none⟩) 1 1 [aliveS] (some ⟨w.heap.size + 1 + 1, 0, none⟩) 1 1 [[]] (some ⟨w.heap.size + 1 + 1 + 1 + 1, 0, none⟩) 1 1 [[0]] none 0 0 [] W hz hs hT hA (by omega) (hno W))
  rw [alive_E, alive_M] at HC
  have HW := hide hW
  have HB := hide BW
  clear hz hs hT hA hL c4 G0 G1 G2 G3 G4 hno hW BW
  go_enter Try.func11, Try.ntmps11
  go_wp2_with fail
  rw [← HW.out]
  refine HC.out.mono ?_
  rintro e w1 ⟨⟨A, n, c, rfl, hm⟩, hb⟩
  have HB1 := hide (bl_on HB.out hb)
  obtain ⟨h1, h2, h3⟩ := hm
  obtain rfl : n = 1 := by simpa using h1.symm
  obtain ⟨b, off, rfl, h4⟩ := h3.resolve_left (by omega)
  obtain ⟨x, l, c2, k1, k2⟩ := h4 0 (by omega)
  rw [Nat.add_zero] at k1
  have hl : l = 1 := by have := k2.1.1; simpa [arrM] using this.symm
  subst hl
  obtain ⟨b2, off2, rfl, k3⟩ := k2.1.2.2.2.resolve_left (by omega)
  have k4 := k3 0 (by omega)
  have e7 : (arrM [[7]] 0)[0]?.getD 0 = 7 := by decide
  rw [Nat.add_zero, e7] at k4
  have z1 := lt_of_cell k1
  have z2 := lt_of_cell k4
  simp only at z1 z2
  clear hb h1 h2 h3 h4 k2 k3
  go_wp2_with fail
  go_ret
  exact ⟨rfl, HB1.out⟩
end Go.Proofs.Ytoidgdbgpbcebaa.V
namespace Go.Proofs.Ytoidgdbgpbcebaa.V
open Go.RowKit
set_option linter.unusedVariables false

set_option maxRecDepth 100000 in
set_option maxHeartbeats 8000000 in
theorem orderKeeps_walk (za : Option Addr) (zl zc : Nat) (zs : List Int) (ta : Option Addr) (tl tc : Nat) (ss : List Stm) (ma : Option Addr) (ml mc : Nat) (T : Tms) (a : Option Addr) (len cap : Nat) (L : Mem) (w : World) (hz : Ints w za zl zs) (hs : Stms w ta tl ss) (hT : TimesA w ma ml T) (hA : MemA w a len L) (hb24 : len * 24 ≤ 140737488355328) :
    Calls Try.prog 4 #[.agg #[.slice za zl zc, .slice ta tl tc], .slice ma ml mc, .slice a len cap] w fun e w' => e = .returned (.bool true) ∧ Below w.heap.size w w' := by
  have B0 : Below w.heap.size w (w.alloc (.cells #[.slice za zl zc, .slice ta tl tc] 25)) := bl_new _
  have P0 := NsBlk.new w za zl zc ta tl tc
  obtain ⟨W, hW⟩ : ∃ W, W = w.alloc (.cells #[.slice za zl zc, .slice ta tl tc] 25) := ⟨_, rfl⟩
  rw [← hW] at B0 P0
  have C1 := hide (fun (V : World) (hb : Below w.heap.size w V) => oLegal_any za zl zc zs ta tl tc ss ma ml mc T V (hz.below hb) (hs.below hb) (hT.below hb))
  have C3 := hide (fun (V : World) (hb : Below w.heap.size w V) => oRun_any za zl zc zs ta tl tc ss ma ml mc T a len cap L none 0 0 [] V (hz.below hb) (hs.below hb) (hT.below hb) (hA.below hb) hb24 (ints_nil V))
  have C4 := hide (fun (V : World) (hb : Below w.heap.size w V) (h : runE zs ss L ≠ 0) => nestRun_no za zl zc zs ta tl tc ss a len cap L V (hz.below hb) (hs.below hb) (hA.below hb) h)
  have C5 : Hid (∀ (V : World), Below w.heap.size w V → runE zs ss L = 0 → Calls Try.prog 13 #[.agg #[.slice za zl zc, .slice ta tl tc], .slice a len cap] V fun e V' => (∃ A c, e = .returned (.tuple #[.slice A len c, .int .i64 0]) ∧ MemA V' A len (runM ss L)) ∧ Below V.heap.size V V') := fun V hb h => by
    refine (callsIn_wide.1 (nestRun_ok za zl zc zs ta tl tc ss a len cap L V (hz.below hb) (hs.below hb) (hA.below hb) (by omega) h)).mono ?_
    rintro e W' ⟨⟨R, G, C, rfl, hm⟩, hb'⟩
    exact ⟨⟨_, _, rfl, hm.memA (by rw [runM_len]; exact hA.1) hA.2.1⟩, hb'⟩
  have HLL := hide hA.1
  obtain ⟨n0, n1⟩ := P0.cells
  have zn := P0.lt
  have HB := hide B0
  have HN := hide P0
  have HW := hide hW
  clear hz hs hT hA B0 P0 hW
  go_enter Try.func4, Try.ntmps4
  go_wp2_with fail
  rw [← HW.out]
  refine (alive11_ok W).mono ?_
  rintro e v0 ⟨rfl, hb⟩
  have HB0 := hide (bl_on HB.out hb)
  have HN0 := hide (HN.out.below hb)
  clear hb n0 n1 zn HN
  obtain ⟨n0, n1⟩ := HN0.out.cells
  have zn := HN0.out.lt
  go_wp2_with fail
  refine (C1.out v0 HB0.out).mono ?_
  rintro e w1 ⟨⟨v1, rfl, hv1⟩, hb⟩
  have HBb := hide (bl_on HB0.out hb)
  have HNb := hide (HN0.out.below hb)
  have HHV := hide hv1
  obtain ⟨E, hE⟩ : ∃ E, E = rightE zs ss T := ⟨_, rfl⟩
  rw [← hE]
  have HE := hide hE
  clear hb n0 n1 zn HN0 hE hv1
  rcases HHV.out with ⟨hE1, rfl⟩ | ⟨hE1, ⟨hNo, rfl⟩ | ⟨i, j, a1, l1, c1, a2, l2, c2, _, rfl, _, _⟩⟩
  · have qE : (E != 0) = true := by rw [HE.out]; simpa using hE1
    unfold zeroF
    clear hE1 HHV
    go_wp2_with fail
    go_ret
    exact ⟨rfl, bl_on HBb.out (bl_new _)⟩
  rotate_left
  · obtain rfl : E = 0 := by rw [HE.out]; exact hE1
    clear hE1 HHV HE
    go_wp2_with fail
    go_ret
    exact ⟨rfl, bl_on HBb.out (bl_new _)⟩
  obtain rfl : E = 0 := by rw [HE.out]; exact hE1
  have HR := hide hE1
  have HNO := hide hNo
  clear hE1 hNo HE HHV
  obtain ⟨w2, hw2⟩ : ∃ w2, w2 = w1.alloc (.cells #[.bool false, .int .i64 0, .slice none 0 0, .int .i64 0, .slice none 0 0] 38) := ⟨_, rfl⟩
  have B2 : Below w1.heap.size w1 w2 := by rw [hw2]; exact bl_new _
  have HF2 : Hid (w2.heap[w1.heap.size]? = some (.cells #[.bool false, .int .i64 0, .slice none 0 0, .int .i64 0, .slice none 0 0] 38 (0, 0))) := by rw [Hid, hw2]; exact World.alloc_heap_new _ _
  have HW2 := hide hw2
  have HB2 := hide (bl_on HBb.out B2)
  have HN2 := hide (HNb.out.below B2)
  obtain ⟨B7, hB7⟩ : ∃ B7, B7 = w1.heap.size := ⟨_, rfl⟩
  have hB7w : w.heap.size < B7 := by have := HNb.out.lt; omega
  have HHB := hide hB7
  rw [← hB7] at HF2
  clear hw2 B2 HNb HBb hB7
  obtain ⟨n0, n1⟩ := HN2.out.cells
  have zn := HN2.out.lt
  have RW5 := row5 (five (.bool false) (.int .i64 0) (.slice none 0 0) (.int .i64 0) (.slice none 0 0)) HF2.out
  have f0 := RW5.cell (i := 0) (by omega)
  simp only [five] at f0
  have zf := RW5.lt
  have HRW := hide RW5
  clear RW5
  go_upto_region 4 with fail
  rw [← HW2.out, ← HHB.out]
  go_wp2_with fail
  by_cases hr : runE zs ss L = 0
  · have hfit : fitsE zs L = 0 := by
      have hne : nestE zs ss = 0 := (rightE_ok HR.out).ord.nest
      unfold runE at hr
      rwa [if_neg (by simpa using hne)] at hr
    obtain ⟨o1, o2⟩ := ord_keeps [] HR.out HNO.out (fun h => absurd rfl h) hfit
    rw [o1, o2] at C3
    have HC5 := hide (fun V hb => C5.out V hb hr)
    clear hr hfit o1 o2
    refine (HC5.out w2 HB2.out).mono ?_
    rintro e w5 ⟨⟨A, c, rfl, hm⟩, hb⟩
    have HB5 := hide (bl_on HB2.out hb)
    have HN5 := hide (HN2.out.below hb)
    have HM5 := hide hm
    clear hb n0 n1 zn hm f0 zf
    obtain ⟨n0, n1⟩ := HN5.out.cells
    have zn := HN5.out.lt
    go_wp2_with fail
    refine (C3.out w5 HB5.out).mono ?_
    rintro e w6 ⟨⟨A', n', c', rfl, hm'⟩, hb⟩
    have hn' : n' = len := by rw [← hm'.1, runM_len]; exact HLL.out
    subst hn'
    have HB6 := hide (bl_on HB5.out hb)
    have HSM := hide (sameMem_any A c A' c' n' (runM ss L) w6 (HM5.out.below hb) hm')
    clear hb n0 n1 zn hm'
    go_wp2_with fail
    refine HSM.out.mono ?_
    rintro e w7 ⟨rfl, nn, rfl⟩
    go_wp2_with fail
    go_ret
    exact ⟨rfl, bl_on HB6.out (below_drewN _ nn)⟩
  · have HC4 := hide (fun V hb => C4.out V hb hr)
    have qr : (runE zs ss L != 0) = true := by simpa using hr
    clear hr
    refine (HC4.out w2 HB2.out).mono ?_
    rintro e w5 ⟨rfl, hb⟩
    have HB5 := hide (bl_on HB2.out hb)
    clear hb n0 n1 zn f0 zf
    go_wp2_with fail
    go_ret
    exact ⟨rfl, HB5.out⟩
end Go.Proofs.Ytoidgdbgpbcebaa.V
