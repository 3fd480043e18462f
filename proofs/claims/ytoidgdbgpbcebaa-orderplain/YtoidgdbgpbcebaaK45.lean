/-
  order.asItStands. order.Plain: its contract.
-/
import Derived.Test.YtoidgdbgpbcebaaK42
import Derived.Test.YtoidgdbgpbcebaaK10
import Derived.Deep.DeepCutAuto
import Derived.Test.YtoidgdbgpbcebaaK44
import Derived.Test.YtoidgdbgpbcebaaK11
import Derived.Test.YtoidgdbgpbcebaaK20
namespace Go.Proofs.Ytoidgdbgpbcebaa.V
open Go Go.RowKit Go.Shelf
set_option linter.unusedVariables false

def asC (j x : Nat) : Int := if j = 0 then 0 else if x = j - 1 then 1 else 0
def asU (m i : Nat) (Cs : Nat → Nat) (j : Nat) : RW := ⟨some ⟨Cs j, 0, none⟩, m, m, if j = 0 then (i : Int) else 0⟩
theorem rowCs_congr {us vs : Nat → RW} : ∀ {l : Nat}, (∀ j, j < l → us j = vs j) → rowCs us l = rowCs vs l := fun {l} h => by
  unfold rowCs
  refine List.map_congr_left fun x hx => ?_
  have hx' : x < l * 2 := by simpa using hx
  rw [h (x / 2) (by omega)]
theorem rowCs_succ (us : Nat → RW) (l : Nat) : rowCs us (l + 1) = rowCs us l ++ [.slice (us l).ca (us l).cl (us l).cc, .int .i64 (us l).con] := by
  unfold rowCs
  have e : (l + 1) * 2 = l * 2 + 2 := by omega
  rw [e, List.range_add, List.map_append]
  congr 1
  have e1 : (l * 2 + 1) / 2 = l := by omega
  have e2 : (l * 2 + 1) % 2 = 1 := by omega
  simp [List.range_succ, e1, e2]
/-- The first rows, in blocks from N on. -/
def OutPR (W : World) (N : Nat) (v : Value) (m i n : Nat) (Cs : Nat → Nat) : Prop := W.ownsRow N 66 2 v n (rowCs (asU m i Cs) n) ∧ ∀ j, j < n → N ≤ Cs j ∧ W.rowIs (Cs j) 3 m (fun x => .int .i64 (asC j x))
theorem OutPR.apart {W : World} {N m i n : Nat} {v : Value} {Cs : Nat → Nat} (h : OutPR W N v m i n Cs) {b : Nat} (hb : v.ownBlock = some b) {j : Nat} (hj : j < n) : b ≠ Cs j := by
  intro e
  obtain ⟨c, h1, _⟩ := (h.2 j hj).2
  rcases h.1.2 with ⟨rfl, _⟩ | ⟨g, cap, cur, rfl, _, hg, _⟩
  · cases hb
  · have e2 : g = b := by simpa [Value.ownBlock] using hb
    rw [e2, e, h1] at hg
    simp only [Option.some.injEq, Obj.cells.injEq] at hg
    exact absurd hg.2.1 (by decide)
theorem OutPR.keep {W V : World} {N m i n : Nat} {v : Value} {Cs : Nat → Nat} (h : OutPR W N v m i n Cs) (hk : ∀ b, N ≤ b → b < W.heap.size → V.heap[b]? = W.heap[b]?) : OutPR V N v m i n Cs := by
  refine ⟨⟨h.1.1, ?_⟩, fun j hj => ⟨(h.2 j hj).1, (h.2 j hj).2.of_block (hk _ (h.2 j hj).1 (h.2 j hj).2.lt)⟩⟩
  rcases h.1.2 with e | ⟨g, cap, cur, h1, h2, h3, h4⟩
  · exact .inl e
  · exact .inr ⟨g, cap, cur, h1, h2, (hk g h2 (Array.getElem?_eq_some_iff.1 h3).1).trans h3, h4⟩
theorem OutPR.next {W w' : World} {N m i n C : Nat} {v v' : Value} {Cs : Nat → Nat} (h : OutPR W N v m i n Cs) (hn : 0 < n) (hC : N ≤ C) (hr : W.rowIs C 3 m (fun x => .int .i64 (asC n x))) (hne : ∀ j, j < n → Cs j ≠ C)
    (ho : w'.ownsRow N 66 2 v' (n + 1) (rowCs (asU m i Cs) n ++ [.slice (some ⟨C, 0, none⟩) m m, .int .i64 0])) (hg : (W.alloc (.cells #[.slice (some ⟨C, 0, none⟩) m m, .int .i64 0] 66)).grownBy w' v.ownBlock) :
    OutPR w' N v' m i (n + 1) (fun j => if j = n then C else Cs j) := by
  have hkeep : ∀ b, b < W.heap.size → v.ownBlock ≠ some b → w'.heap[b]? = W.heap[b]? := fun b hb hne => by
    refine (hg.block b (by simp; omega) (fun e => hne e.symm)).trans (Below.heap_alloc _ _ _ hb)
  refine ⟨?_, fun j hj => ?_⟩
  · rw [rowCs_succ]
    have e1 : rowCs (asU m i fun j => if j = n then C else Cs j) n = rowCs (asU m i Cs) n := rowCs_congr fun j hj => by
      have e : (if j = n then C else Cs j) = Cs j := if_neg (by omega)
      simp only [asU, e]
    have e2 : asU m i (fun j => if j = n then C else Cs j) n = ⟨some ⟨C, 0, none⟩, m, m, 0⟩ := by
      have e : n ≠ 0 := by omega
      simp [asU, e]
    rw [e1, e2]
    exact ho
  · by_cases e : j = n
    · subst e
      simp only [if_pos]
      refine ⟨hC, hr.of_block (hkeep C hr.lt (fun e => ?_))⟩
      obtain ⟨c, h1, _⟩ := hr
      rcases h.1.2 with ⟨rfl, _⟩ | ⟨g, cap, cur, rfl, _, hg, _⟩
      · cases e
      · have e2 : g = C := by simpa [Value.ownBlock] using e
        rw [e2, h1] at hg
        simp only [Option.some.injEq, Obj.cells.injEq] at hg
        exact absurd hg.2.1 (by decide)
    · have hj' : j < n := by omega
      simp only [if_neg e]
      refine ⟨(h.2 j hj').1, (h.2 j hj').2.of_block (hkeep _ (h.2 j hj').2.lt (fun e => h.apart e hj' rfl))⟩
theorem plainR_at (m i j : Nat) (hj : j < m + 1) : (plainR m i)[j]?.getD ([], 0) = ((List.range m).map (asC j), if j = 0 then (i : Int) else 0) := by
  unfold plainR
  cases j with
  | zero =>
    simp only [List.getElem?_cons_zero, Option.getD_some]
    refine Prod.ext ?_ (by simp)
    refine List.ext_getElem (by simp) (fun x h1 h2 => by simp [asC])
  | succ j =>
    rw [List.getElem?_cons_succ, List.getElem?_map, List.getElem?_range (by omega)]
    simp only [Option.map_some, Option.getD_some]
    refine Prod.ext ?_ (by simp)
    refine List.ext_getElem (by simp [unitR]) (fun x h1 h2 => by simp [asC, unitR])
theorem OutPR.rws {W : World} {N m i : Nat} {v : Value} {Cs : Nat → Nat} (h : OutPR W N v m i (m + 1) Cs) (hm : m ≤ 1000) (hi : i ≤ 1000000) : ∃ g c, v = .slice (some ⟨g, 0, none⟩) (m + 1) c ∧ Lies N (fun V => Rws V (some ⟨g, 0, none⟩) (m + 1) (plainR m i)) W := by
  rcases h.1.2 with ⟨_, e⟩ | ⟨g, cap, cur, rfl, hb, hg, hcap, _, hsz, ht⟩
  · omega
  refine ⟨g, cap, rfl, fun V hV => ?_⟩
  have hV2 : OutPR V N (.slice (some ⟨g, 0, none⟩) (m + 1) cap) m i (m + 1) Cs := by
    refine ⟨⟨h.1.1, .inr ⟨g, cap, cur, rfl, hb, (hV.1 g cur _ hb (by decide) hg).trans hg, hcap, ‹_›, hsz, ht⟩⟩, fun j hj => ?_⟩
    obtain ⟨k1, k2⟩ := h.2 j hj
    obtain ⟨c, h1, h2⟩ := k2
    exact ⟨k1, c, (hV.1 _ c _ k1 (by decide) h1).trans h1, h2⟩
  refine ⟨by simp [plainR], by omega, .inr ⟨g, 0, rfl, fun j hj => ?_⟩⟩
  obtain ⟨k0, k1⟩ := rowCs_at (asU m i Cs) (m + 1) j hj
  have c0 := hV2.1.cellAt (j * 2) (by omega)
  have c1 := hV2.1.cellAt (j * 2 + 1) (by omega)
  rw [k0] at c0
  rw [k1] at c1
  rw [plainR_at m i j hj]
  have hr := (hV2.2 j hj).2
  refine ⟨_, _, _, by rw [Nat.zero_add]; exact c0, by rw [Nat.zero_add]; exact c1, ⟨by simp [asU], by simp only [asU]; omega, fun x hx => ?_, ?_⟩, ⟨Nat.le_refl _, fun e => by cases e⟩, ?_⟩
  · simp only [List.mem_map] at hx
    obtain ⟨y, _, rfl⟩ := hx
    unfold asC
    split
    · omega
    · split <;> omega
  · refine .inr ⟨Cs j, 0, rfl, fun x hx => ?_⟩
    have hx' : x < m := hx
    rw [Nat.zero_add, hr.cell hx']
    simp [hx']
  · simp only
    split <;> omega
set_option maxRecDepth 100000 in
set_option maxHeartbeats 2000000 in
theorem asIt_any (i m : Nat) (hi : i ≤ 1000000) (hm : m ≤ 1000) (w : World) : Calls Try.prog 42 #[.int .i64 i, .int .i64 m] w fun e w' => (∃ g c, e = .returned (.slice (some ⟨g, 0, none⟩) (m + 1) c) ∧ Lies w.heap.size (fun V => Rws V (some ⟨g, 0, none⟩) (m + 1) (plainR m i)) w') ∧ Below w.heap.size w w' := by
  have hmk := run_make_row' (P := Try.prog) 22 3 (.int .i64 0) 8 Try.underlying22 info_int rfl .i64 .i64 m (by omega) (by omega)
  obtain ⟨i0, hi0, hz0, hz1, hz2⟩ := info_parts info_R
  go_enter Try.func42, Try.ntmps42
  go_wp2_with fail
  obtain ⟨W0, hW0⟩ : ∃ W0, W0 = (w.alloc (.cells (madeCells #[.int .i64 0] m) 3)).alloc (.cells #[.slice (some ⟨w.heap.size, 0, none⟩) m m, .int .i64 i] 66) := ⟨_, rfl⟩
  have HB0 : Hid (Below w.heap.size w W0) := by rw [Hid, hW0]; exact bl_on (bl_new _) (bl_new _)
  have HA0 : Hid (OutPR W0 w.heap.size (.slice (some ⟨w.heap.size + 1, 0, none⟩) 1 1) m i 1 (fun _ => w.heap.size)) := by
    rw [Hid, hW0]
    refine ⟨?_, fun j hj => ⟨Nat.le_refl _, ?_⟩⟩
    · have := World.ownsRow_lit (base := w.heap.size) (size := 2) (e := 66) (w.alloc (.cells (madeCells #[.int .i64 0] m) 3)) #[.slice (some ⟨w.heap.size, 0, none⟩) m m, .int .i64 i] 1 (by simp) (by unfold maxLen; omega) rfl
      rw [World.size_alloc] at this
      exact this
    · obtain rfl : j = 0 := by omega
      exact (World.rowIs_made w (.int .i64 0) m 3).alloc _
  rw [← hW0]
  clear hW0
  go_loopw [5, 14] (fun va vk wr => ∃ (v : Value) (k : Nat) (Cs : Nat → Nat), v = va ∧ vk = .int .i64 k ∧ k ≤ m ∧ OutPR wr w.heap.size v m i (k + 1) Cs ∧ Below w.heap.size w wr) (fun _ vk _ => m - (intOf vk).toNat)
  case atStart => exact ⟨_, 0, _, rfl, rfl, by omega, HA0.out, HB0.out⟩
  case round =>
    clear HA0 HB0
    obtain ⟨va, k, Cs, hva, rfl, hkm, hA, hB⟩ := hrel
    subst hva
    have HA := hide hA
    have HB := hide hB
    clear hA hB
    by_cases hlt : k < m
    · have hltz : (k : Int) < (m : Int) := by omega
      obtain ⟨V2, hV2⟩ : ∃ V2, V2 = wr.alloc (.cells ((madeCells #[.int .i64 0] m).setIfInBounds k (.int .i64 1)) 3) := ⟨_, rfl⟩
      have hB2 : Below wr.heap.size wr V2 := by rw [hV2]; exact bl_new _
      have HA2 : Hid (OutPR V2 w.heap.size va m i (k + 1) Cs) := HA.out.keep fun b _ hb => hB2.block b hb
      have HR2 : Hid (V2.rowIs wr.heap.size 3 m (fun x => .int .i64 (asC (k + 1) x))) := by
        rw [Hid, hV2]
        have h1 := World.rowIs_alloc wr ((madeCells #[.int .i64 0] m).setIfInBounds k (.int .i64 1)) 3 (fun x => .int .i64 (asC (k + 1) x)) (fun x hx => by
          have hx' : x < m := by simpa [size_madeCells] using hx
          have e : asC (k + 1) x = if x = k then 1 else 0 := by
            unfold asC
            rw [if_neg (by omega : ¬ k + 1 = 0), Nat.add_sub_cancel]
          rw [e, Array.getElem?_setIfInBounds]
          by_cases c : k = x
          · subst c
            simp [size_madeCells, hx']
          · rw [if_neg c, if_neg (fun h => c h.symm)]
            simp [madeCells, hx', Nat.mod_one])
        simpa [size_madeCells] using h1
      have HBV := hide (bl_on HB.out hB2)
      have hszw := HB.out.size
      have hszv := hB2.size
      have HNE : Hid (∀ j, j < k + 1 → Cs j ≠ wr.heap.size) := fun j hj => by have := (HA.out.2 j hj).2.lt; omega
      have HV2 := hide hV2
      have HV2s : Hid (V2.heap.size = wr.heap.size + 1) := by rw [Hid, hV2]; simp
      clear hB2 hV2 hszv
      have hmc : (madeCells #[Value.int .i64 0] m)[k]? = some (.int .i64 0) := by simp [madeCells, hlt, Nat.mod_one]
      go_wp2_with (first | (at_builtin; rw [← HV2.out]; refine wpList_append_own _ (by rfl) (.tmp 22) (.tmp 25) 62 (by rfl) w.heap.size 66 i0 (.agg #[.slice none 0 0, .int .i64 0]) 2 32 Try.underlying62 hi0 hz0 hz1 hz2 rfl (by decide) va (k + 1) (rowCs (asU m i Cs) (k + 1)) (by rfl) (HA2.out.1.alloc _) ⟨wr.heap.size + 1, 0, none⟩ 1 1 [.slice (some ⟨wr.heap.size, 0, none⟩) m m, .int .i64 0] (by rfl) rfl ?_ ?_ (by unfold maxLen; omega) (by omega) (by simp; have := HV2s.out; omega) ?_) | fail)
      · intro j u hj
        have hjl : j = 0 ∨ j = 1 := by have := (List.getElem?_eq_some_iff.1 hj).1; simp at this; omega
        rw [Go.WideShapes.add_plain, ← HV2s.out]
        show (V2.alloc (.cells #[.slice (some ⟨wr.heap.size, 0, none⟩) m m, .int .i64 0] 66)).cell? ⟨V2.heap.size, 0 + j, none⟩ = _
        unfold World.cell?
        rw [World.alloc_heap_new V2 (.cells #[.slice (some ⟨wr.heap.size, 0, none⟩) m m, .int .i64 0] 66)]
        rcases hjl with rfl | rfl <;> simpa using hj
      · intro u hu
        simp at hu
        rcases hu with rfl | rfl <;> rfl
      · intro v' w' ho hg _
        have HN := hide (HA2.out.next (by omega) (by omega) HR2.out HNE.out ho hg)
        have HBW : Hid (Below w.heap.size w w') := by
          have := HV2s.out
          exact (HBV.out.trans ((bl_new _).mono (by omega))).grown hg (by simp; omega) (fun b e => (HA2.out.1.lt b e).1)
        clear ho hg
        go_wp2
        go_roundw
        case rel => exact ⟨_, k + 1, _, rfl, by go_num, by omega, HN.out, HBW.out⟩
        case measure => simp [intOf]; omega
    · have hltz : ¬ (k : Int) < (m : Int) := by omega
      obtain rfl : k = m := by omega
      obtain ⟨g, c, rfl, hL⟩ := HA.out.rws hm hi
      have HL := hide hL
      clear hL
      go_wp2
      go_ret
      exact ⟨⟨g, ⟨c, rfl⟩, HL.out⟩, HB.out⟩
end Go.Proofs.Ytoidgdbgpbcebaa.V
namespace Go.Proofs.Ytoidgdbgpbcebaa.V
open Go Go.RowKit Go.Shelf
set_option linter.unusedVariables false

/-- The times of the first k statements have been laid. -/
def PlInv (w : World) (ss : List Stm) (R tl k : Nat) (W : World) : Prop := ∃ f : Nat → Value, W.rowIs R 62 tl f ∧ (∀ j, j < k → ∃ g c, f j = .slice (some ⟨g, 0, none⟩) ((ss[j]?.getD stmD).box.length + 1) c ∧ Lies (R + 1) (fun V => Rws V (some ⟨g, 0, none⟩) ((ss[j]?.getD stmD).box.length + 1) (plainR (ss[j]?.getD stmD).box.length j)) W) ∧ Below w.heap.size w W
theorem PlInv.step {w W W2 : World} {ss : List Stm} {R tl k g c : Nat} (h : PlInv w ss R tl k W) (hw : w.heap.size ≤ R) (hb : Below W.heap.size W W2) (hl : Lies W.heap.size (fun V => Rws V (some ⟨g, 0, none⟩) ((ss[k]?.getD stmD).box.length + 1) (plainR (ss[k]?.getD stmD).box.length k)) W2) :
    PlInv w ss R tl (k + 1) (W2.setCell ⟨R, k, none⟩ (.slice (some ⟨g, 0, none⟩) ((ss[k]?.getD stmD).box.length + 1) c)) := by
  obtain ⟨f, h1, h2, h3⟩ := h
  have hR := h1.lt
  refine ⟨_, (h1.of_block (hb.block R hR)).set k _, fun j hj => ?_, (bl_on h3 hb).setCell (p := ⟨R, k, none⟩) (by simpa using hw) _⟩
  by_cases e : j = k
  · subst e
    exact ⟨g, c, by rw [if_pos rfl], (hl.mono (by omega)).set (by simp) _⟩
  · obtain ⟨g', c', e1, e2⟩ := h2 j (by omega)
    exact ⟨g', c', by rw [if_neg e]; exact e1, (e2.below hb).set (by simp) _⟩
theorem PlInv.times {w W : World} {ss : List Stm} {R tl : Nat} (h : PlInv w ss R tl tl W) (hl : ss.length = tl) (hm : tl ≤ 9223372036854775807) : TimesA W (some ⟨R, 0, none⟩) tl (plainT ss) := by
  obtain ⟨f, h1, h2, h3⟩ := h
  refine ⟨by simp [plainT, hl], hm, .inr ⟨R, 0, rfl, fun j hj => ?_⟩⟩
  obtain ⟨g, c, e1, e2⟩ := h2 j hj
  refine ⟨_, _, _, by rw [Nat.zero_add, h1.cell hj, e1], ?_⟩
  have e : (plainT ss)[j]?.getD [] = plainR (ss[j]?.getD stmD).box.length j := by
    have hj' : j < ss.length := by omega
    simp [plainT, hj']
  rw [e]
  exact e2.out
/-- What Plain tells. -/
def PlP (zs : List Int) (ss : List Stm) (tl : Nat) (e : Ending) (w' : World) : Prop := ∃ ma mc T, e = .returned (.slice ma tl mc) ∧ TimesA w' ma tl T ∧ (nestE zs ss = 0 → T = plainT ss)
set_option maxRecDepth 100000 in
set_option maxHeartbeats 2000000 in
theorem oPlain_len (za : Option Addr) (zl zc : Nat) (zs : List Int) (ta : Option Addr) (tl tc : Nat) (ss : List Stm) (w : World) (hz : Ints w za zl zs) (hs : Stms w ta tl ss) (htb : tl * 24 ≤ 140737488355328) :
    Calls Try.prog 16 #[.agg #[.slice za zl zc, .slice ta tl tc]] w fun e w' => PlP zs ss tl e w' ∧ Below w.heap.size w w' := by
  have hmk := run_make_row' (P := Try.prog) 27 62 (.slice none 0 0) 24 Try.underlying27 (by kernel_rfl) rfl .i64 .i64 tl (by omega) (by omega)
  obtain ⟨W, hW⟩ : ∃ W, W = (w.alloc (.cells #[.slice za zl zc, .slice ta tl tc] 25)).alloc (.cells (madeCells #[.slice none 0 0] tl) 62) := ⟨_, rfl⟩
  have BW : Below w.heap.size w W := by rw [hW]; exact bl_on (bl_new _) (bl_new _)
  have hr0 : W.rowIs (w.heap.size + 1) 62 tl (fun _ => .slice none 0 0) := by
    have := World.rowIs_made (w.alloc (.cells #[.slice za zl zc, .slice ta tl tc] 25)) (.slice none 0 0) tl 62
    rw [World.size_alloc] at this
    rw [hW]
    exact this
  have hn0 : NsBlk W w.heap.size za zl zc ta tl tc := by rw [hW]; exact (Below.heap_alloc _ _ _ (by simp)).trans (NsBlk.new w za zl zc ta tl tc)
  have HWR := hide (nestWrong_any za zl zc zs ta tl tc ss W (hz.below BW) (hs.below BW))
  have HBW := hide BW
  have HR0 := hide hr0
  have HN0 := hide hn0
  have HS := hide hs
  have HW := hide hW
  have hsl : ss.length = tl := hs.1
  have htl := hs.2.1
  clear hz hs BW hr0 hn0 hW
  go_enter Try.func16, Try.ntmps16
  go_wp2_with fail
  rw [← HW.out]
  refine HWR.out.mono ?_
  rintro e w1 ⟨rfl, hb1⟩
  have HB1 := hide (bl_on HBW.out hb1)
  have HR1 := hide (HR0.out.of_block (hb1.block _ HR0.out.lt))
  have HN1 := hide (HN0.out.below hb1)
  clear hb1 HWR HR0 HN0 HBW HW
  by_cases hE : nestE zs ss = 0
  · obtain ⟨n0, n1⟩ := HN1.out.cells
    have zn := HN1.out.lt
    have HOK := hide (nestE_ok hE)
    rw [hE]
    go_wp2_with fail
    have HI1 : Hid (PlInv w ss (w.heap.size + 1) tl 0 w1) := ⟨_, HR1.out, fun j hj => by omega, HB1.out⟩
    clear HR1 HB1 n0 n1 zn
    go_loopw [17] (fun vk wr => ∃ k : Nat, vk = .int .i64 k ∧ k ≤ tl ∧ PlInv w ss (w.heap.size + 1) tl k wr) (fun vk _ => tl - (intOf vk).toNat)
    case atStart => exact ⟨0, rfl, by omega, HI1.out⟩
    case round =>
      clear HI1
      obtain ⟨k, rfl, hkl, hI⟩ := hrel
      have HI := hide hI
      clear hI
      by_cases hlt : k < tl
      · have hltz : (k : Int) < (tl : Int) := by omega
        have hBw : Below w.heap.size w wr := by obtain ⟨_, _, _, h⟩ := HI.out; exact h
        have hsz := hBw.size
        obtain ⟨b, off, rfl, hst⟩ := HS.out.2.2.resolve_left (by omega)
        obtain ⟨q, hq, c0, c1, c2, c3, c4, c5, c6, c7⟩ := (hst k hlt).below hBw
        have hbx : q.bl = (ss[k]?.getD stmD).box.length := hq.box.1.1.symm
        have hso := HOK.out.stms (ss[k]?.getD stmD) (by have : k < ss.length := by omega
                                                        simp [this])
        have hfew := HOK.out.many
        have hb4 : q.bl ≤ 1000 := by have := (ptE_ok hso.pt).rank; omega
        obtain ⟨W2, hW2⟩ : ∃ W2, W2 = wr.alloc (.cells q.cs 71) := ⟨_, rfl⟩
        have B2 : Below wr.heap.size wr W2 := by rw [hW2]; exact bl_new _
        have HAS := hide (asIt_any k q.bl (by omega) hb4 W2)
        have HB2 := hide B2
        have HW2 := hide hW2
        have HBX := hide hbx
        unfold SW.cs at HW2
        clear hq hst B2 hW2 hbx hso hfew hBw
        go_wp2_with fail
        rw [← HW2.out]
        refine HAS.out.mono ?_
        rintro e w3 ⟨⟨g, c, rfl, hl⟩, hb3⟩
        have hb := bl_on HB2.out hb3
        have hIr := HI.out
        obtain ⟨f, hr, _, _⟩ := hIr
        have hr3 := hr.of_block (hb.block _ hr.lt)
        have cR := hr3.cell hlt
        have fR := hr3.frozen k
        have zR := hr3.lt
        rw [HBX.out] at hl
        have HN := hide (HI.out.step (c := c) (by omega) hb (hl.mono HB2.out.size))
        rw [← HBX.out] at HN
        clear hl hb3 hb hr hr3 HAS
        go_wp2_with fail
        go_roundw
        case rel => exact ⟨k + 1, by go_num, by omega, HN.out⟩
        case measure => simp [intOf]; omega
      · have hltz : ¬ (k : Int) < (tl : Int) := by omega
        obtain rfl : k = tl := by omega
        have HT := hide (HI.out.times hsl htl)
        have HBB : Hid (Below w.heap.size w wr) := by obtain ⟨_, _, _, h⟩ := HI.out; exact h
        clear HI
        go_wp2_with fail
        go_ret
        exact ⟨⟨_, _, _, rfl, HT.out, fun _ => rfl⟩, HBB.out⟩
  · have hEb : (nestE zs ss != 0) = true := by simpa using hE
    obtain ⟨E, hEE⟩ : ∃ E, E = nestE zs ss := ⟨_, rfl⟩
    rw [← hEE] at hEb ⊢
    go_wp2_with fail
    go_ret
    refine ⟨⟨_, tl, List.replicate tl [], rfl, ⟨by simp, htl, ?_⟩, fun h => absurd h hE⟩, HB1.out⟩
    by_cases h0 : tl = 0
    · exact .inl h0
    · refine .inr ⟨_, 0, rfl, fun j hj => ⟨none, 0, 0, ?_, ?_⟩⟩
      · rw [Nat.zero_add]
        exact HR1.out.cell hj
      · simp only [List.getElem?_replicate, hj, if_true, Option.getD_some]
        exact ⟨rfl, by omega, .inl rfl⟩
theorem oPlain_any (za : Option Addr) (zl zc : Nat) (zs : List Int) (ta : Option Addr) (tl tc : Nat) (ss : List Stm) (w : World) (hz : Ints w za zl zs) (hs : Stms w ta tl ss) (htb : tl * 24 ≤ 140737488355328) :
    Calls Try.prog 16 #[.agg #[.slice za zl zc, .slice ta tl tc]] w fun e w' => (∃ ma ml mc T, e = .returned (.slice ma ml mc) ∧ TimesA w' ma ml T ∧ (nestE zs ss = 0 → T = plainT ss)) ∧ Below w.heap.size w w' := by
  refine (oPlain_len za zl zc zs ta tl tc ss w hz hs htb).mono ?_
  rintro e w' ⟨⟨ma, mc, T, h1, h2, h3⟩, hb⟩
  exact ⟨⟨ma, tl, mc, T, h1, h2, h3⟩, hb⟩
end Go.Proofs.Ytoidgdbgpbcebaa.V
