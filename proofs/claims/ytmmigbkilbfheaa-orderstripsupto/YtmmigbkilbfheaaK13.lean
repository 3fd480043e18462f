/-
  The document's stripped. The document's Strip: what it keeps in memory.
-/
import Derived.Test.YtmmigbkilbfheaaK10
import Derived.Deep.DeepCutAuto
namespace Go.Proofs.Ytmmigbkilbfheaa.V
open Go Go.RowKit
set_option linter.unusedVariables false

/-- The first j numbers, one of them stripped. -/
def stTo (k : Nat) (n : Int) (xs : List Int) : Nat → List Int
  | 0 => []
  | j + 1 => stTo k n xs j ++ (if j = k then [xs[j]?.getD 0 * n, xs[j]?.getD 0] else [xs[j]?.getD 0])
theorem stTo_le (k : Nat) (n : Int) (xs : List Int) : ∀ j, j ≤ k → j ≤ xs.length → stTo k n xs j = xs.take j
  | 0, _, _ => by simp [stTo]
  | j + 1, h1, h2 => by
    rw [stTo, stTo_le k n xs j (by omega) (by omega), if_neg (by omega), List.take_succ_eq_append_getElem (by omega)]
    simp [show j < xs.length by omega]
theorem stTo_gt (k : Nat) (n : Int) (xs : List Int) : ∀ j, k < j → j ≤ xs.length → stTo k n xs j = xs.take k ++ (xs[k]?.getD 0 * n) :: xs[k]?.getD 0 :: (xs.drop (k + 1)).take (j - (k + 1))
  | 0, h, _ => by omega
  | j + 1, h1, h2 => by
    by_cases e : j = k
    · subst e
      rw [stTo, stTo_le j n xs j (Nat.le_refl _) (by omega), if_pos rfl]
      simp
    · rw [stTo, stTo_gt k n xs j (by omega) (by omega), if_neg e]
      have e1 : j + 1 - (k + 1) = (j - (k + 1)) + 1 := by omega
      rw [e1, List.take_succ_eq_append_getElem (by simp; omega)]
      have e2 : (k + 1 + (j - (k + 1))) = j := by omega
      simp [e2, show j < xs.length by omega]
theorem stTo_all {k : Nat} {n : Int} {xs : List Int} {con : Int} (h : k < xs.length) : stTo k n xs xs.length = (stripR k n (xs, con)).1 := by
  rw [stTo_gt k n xs xs.length h (Nat.le_refl _)]
  have e : (xs.drop (k + 1)).take (xs.length - (k + 1)) = xs.drop (k + 1) := List.take_of_length_le (by simp)
  rw [e]
  rfl
theorem stTo_len {k : Nat} {n : Int} {xs : List Int} : ∀ j, (stTo k n xs j).length ≤ j * 2
  | 0 => by simp [stTo]
  | j + 1 => by
    have := stTo_len (k := k) (n := n) (xs := xs) j
    rw [stTo, List.length_append]
    split <;> simp <;> omega
abbrev ivs (l : List Int) : List Value := l.map (Value.int .i64)
theorem size_rowT : (Try.prog.info? 51).map (·.size) = some 2 := by kernel_rfl
theorem blk2_cell {w : World} {b : Nat} {c : Array Value} {t : TypeId} {fr : Nat × Nat} (h : w.heap[b]? = some (.cells c t fr)) (i : Nat) : w.cell? ⟨b, i, none⟩ = c[i]? := by simp [World.cell?, h]
theorem blk2_frozen {w : World} {b : Nat} {c : Array Value} {t : TypeId} (h : w.heap[b]? = some (.cells c t (0, 0))) (i : Nat) : w.frozen? ⟨b, i, none⟩ = false := by simp [World.frozen?, h]
/-- While it is stripped: the box, and its row. -/
def stM (B : Nat) (con : Int) (u : Value) (l : List Int) : Nat → Mb := fun i => if i = 0 then boxM B 51 [u, .int .i64 con] else ⟨u, 3, 1, l.length, ivs l⟩
theorem stM_store (B : Nat) (con : Int) (u v' : Value) (l l2 : List Int) (i : Nat) (hi : i < 2) : stM B con v' (l ++ l2) i = upF (upF (stM B con u l) 1 ⟨v', 3, 1, l.length + l2.length, ivs l ++ ivs l2⟩) 0 (boxM B 51 ([u, .int .i64 con].set 0 v')) i := by
  have hi2 : i = 0 ∨ i = 1 := by omega
  rcases hi2 with rfl | rfl
  · rfl
  · simp [stM, upF]
set_option maxRecDepth 100000 in
set_option maxHeartbeats 4000000 in
theorem rStripped_any (ca : Option Addr) (cl cc : Nat) (con : Int) (xs : List Int) (k n : Nat) (w : World) (hx : Ints w ca cl xs) (hb : ∀ x ∈ xs, -2147483648 ≤ x ∧ x ≤ 2147483648) (hk : k < cl) (hn : n ≤ 4096) (hl : cl ≤ 1000) :
    Calls Try.prog 51 #[.agg #[.slice ca cl cc, .int .i64 con], .int .i64 (k : Int), .int .i64 (n : Int)] w fun e w' => (∃ u, e = .returned (.agg #[u, .int .i64 con]) ∧ w'.ownsRow w.heap.size 3 1 u (stripR k n (xs, con)).1.length (ivs (stripR k n (xs, con)).1)) ∧ Below w.heap.size w w' := by
  obtain ⟨W, hW⟩ : ∃ W, W = (w.alloc (.cells #[.slice ca cl cc, .int .i64 con] 51)).alloc (.cells #[.slice none 0 0, .int .i64 0] 51) := ⟨_, rfl⟩
  have BW : Below w.heap.size w W := by rw [hW]; exact bl_on (bl_new _) (bl_new _)
  have hz : W.heap.size = w.heap.size + 1 + 1 := by rw [hW]; simp
  have F1 : W.heap[w.heap.size]? = some (.cells #[.slice ca cl cc, .int .i64 con] 51 (0, 0)) := by rw [hW]; exact (Below.heap_alloc _ _ _ (by simp)).trans (World.alloc_heap_new w _)
  have F2 : W.heap[w.heap.size + 1]? = some (.cells #[.slice none 0 0, .int .i64 0] 51 (0, 0)) := by
    rw [hW]
    have := World.alloc_heap_new (w.alloc (.cells #[.slice ca cl cc, .int .i64 con] 51)) (.cells #[.slice none 0 0, .int .i64 0] 51)
    rw [World.size_alloc] at this
    exact this
  have HX := hide (hx.below BW)
  have HXL := hide hx.1
  have HBD := hide hb
  have HW := hide hW
  have HBW := hide BW
  have HF2 := hide F2
  have HZ := hide hz
  have HST : Hid (Fm (W.alloc (.cells #[.slice none 0 0, .int .i64 con] 51)) W.heap.size 2 (stM W.heap.size con (.slice none 0 0) [])) := by
    refine ⟨fun i hi => ?_, fun i j g hi hj e1 e2 => ?_⟩
    · have hi2 : i = 0 ∨ i = 1 := by omega
      rcases hi2 with rfl | rfl
      · exact box_own (c := #[.slice none 0 0, .int .i64 con]) (World.alloc_heap_new W _) (Nat.le_refl _)
      · exact World.ownsRow_nil _ _ _ _
    · have hi2 : i = 0 ∨ i = 1 := by omega
      have hj2 : j = 0 ∨ j = 1 := by omega
      rcases hi2 with rfl | rfl
      · rcases hj2 with rfl | rfl
        · rfl
        · cases e2
      · cases e1
  clear hx hb hW BW F1 F2 hz
  go_enter Try.func51, Try.ntmps51
  go_wp2_with fail
  rw [← HW.out, ← HZ.out]
  obtain ⟨B, hB⟩ : ∃ B, B = W.heap.size := ⟨_, rfl⟩
  rw [← hB] at HST ⊢
  have HBB := hide hB
  go_loopw [16] (fun vj wr => ∃ (j : Nat) (u : Value), j ≤ cl ∧ vj = .int .i64 j ∧ Fm wr B 2 (stM B con u (stTo k n xs j)) ∧ Below B W wr) (fun vj _ => cl - (intOf vj).toNat)
  case atStart => exact ⟨0, _, Nat.zero_le _, rfl, HST.out, by rw [hB]; exact bl_new _⟩
  case round =>
    obtain ⟨j, u, hj, rfl, hF, hbr⟩ := hrel
    have HF := hide hF
    have HBR := hide hbr
    clear hF hbr hB HST
    have hbx := boxM.cells (B := B) (g := B) (t := 51) (c := [u, .int .i64 con]) (HF.out.row 0 (by omega))
    have y0 := (hbx 0).1
    have y1 := (hbx 1).1
    have yz := (hbx 0).2.2
    simp at y0 y1
    clear hbx
    have hsl := stTo_len (k := k) (n := n) (xs := xs) j
    by_cases hjl : j < cl
    · have hjz : (j : Int) < (cl : Int) := by omega
      obtain ⟨b, o, rfl, zb, c1⟩ := (HX.out.below (HBR.out.mono (by rw [HBB.out]; exact Nat.le_refl _))).at (show 0 < cl by omega)
      have q1 := c1 j hjl
      obtain ⟨x, hx⟩ : ∃ x, x = xs[j]?.getD 0 := ⟨_, rfl⟩
      rw [← hx] at q1
      have hxb : -2147483648 ≤ x ∧ x ≤ 2147483648 := by rw [hx]; exact HBD.out _ (by have h1 := HXL.out; simp [show j < xs.length by omega])
      have HXX := hide hx
      clear c1 hx
      by_cases hjk : j = k
      · have hE : ((j : Int) == (k : Int)) = true := by simp; omega
        have HJK := hide hjk
        clear hjk
        have HLL : Hid ((stTo k n xs j).length + 1 ≤ 1000000000) := by rw [Hid]; omega
        have HSZ : Hid (B ≤ wr.heap.size) := by have h1 := HBR.out.size; rw [Hid, HBB.out]; exact h1
        have hmul : -8796093022208 ≤ x * (n : Int) ∧ x * (n : Int) ≤ 8796093022208 := by
          have h1 : x * (n : Int) ≤ 2147483648 * (n : Int) := Int.mul_le_mul_of_nonneg_right hxb.2 (by omega)
          have h2 : -2147483648 * (n : Int) ≤ x * (n : Int) := Int.mul_le_mul_of_nonneg_right hxb.1 (by omega)
          omega
        obtain ⟨P, hP⟩ : ∃ P, P = x * (n : Int) := ⟨_, rfl⟩
        have hw1 : IntKind.i64.wrap (x * (n : Int)) = P := by rw [IntKind.wrap_i64, hP]; omega
        have HP := hide hP
        clear hmul hP
        go_upto_region 7 with (at_builtin; refine append_fm rfl (.tmp 25) (.tmp 29) 22 3 _ 1 8 rfl Try.underlying22 info_int rfl (by decide) (by decide) B 2 _ HF.out 1 (by omega) ⟨u, 3, 1, (stTo k n xs j).length, ivs (stTo k n xs j)⟩ rfl rfl rfl rfl #[.int .i64 P] 1 rfl (by simp [Value.oneCell']) rfl HLL.out HSZ.out ?_; intro HGv HGw hF2 hb2; obtain ⟨gg, gc, hgv⟩ := (hF2.row 1 (by omega)).slice (by simp [upF]); simp only [upF_eq] at hgv; subst hgv; have hbx := boxM.cells (B := B) (g := B) (t := 51) (c := [_, .int .i64 con]) (hF2.row 0 (by omega)); have x0 := (hbx 0).1; have xf := (hbx 0).2.1; have xz := (hbx 0).2.2; simp at x0; have HG := hide (hF2.store (k := 0) (g := B) (i := 0) (x := .slice (some ⟨gg, 0, none⟩) ((stTo k n xs j).length + 1) gc) (by omega) rfl); have HBG := hide ((HBR.out.trans hb2).setCell (p := ⟨B, 0, none⟩) (by simp) (.slice (some ⟨gg, 0, none⟩) ((stTo k n xs j).length + 1) gc)); clear hbx hF2 hb2)
        obtain ⟨u3, hu3⟩ : ∃ u3, u3 = Value.slice (some ⟨gg, 0, none⟩) ((stTo k n xs j).length + 1) gc := ⟨_, rfl⟩
        obtain ⟨W3, hW3⟩ : ∃ W3, W3 = HGw.setCell ⟨B, 0, none⟩ (.slice (some ⟨gg, 0, none⟩) ((stTo k n xs j).length + 1) gc) := ⟨_, rfl⟩
        rw [← hW3] at HG HBG ⊢
        obtain ⟨L3, hL3⟩ : ∃ L3, L3 = stTo k n xs j ++ [P] := ⟨_, rfl⟩
        have HF3 : Hid (Fm W3 B 2 (stM B con u3 L3)) := by rw [Hid, hL3, hu3]; exact HG.out.congr fun i hi => stM_store B con u _ (stTo k n xs j) [P] i hi
        have HL3 := hide hL3
        have hl3 : L3.length ≤ 2001 := by rw [hL3, List.length_append]; simp; omega
        have HLL3 : Hid (L3.length + 1 ≤ 1000000000) := by rw [Hid]; omega
        have HSZ3 : Hid (B ≤ W3.heap.size) := by have h1 := HBG.out.size; rw [Hid, HBB.out]; exact h1
        have hbx3 := boxM.cells (B := B) (g := B) (t := 51) (c := [u3, .int .i64 con]) (HF3.out.row 0 (by omega))
        have s0 := (hbx3 0).1
        have sz := (hbx3 0).2.2
        simp at s0
        clear hbx3 hW3 hL3 HG y0 y1 yz x0 xf xz hu3
        clear HF HLL HSZ
        go_wp2_with (at_builtin; refine append_fm rfl (.tmp 33) (.tmp 35) 22 3 _ 1 8 rfl Try.underlying22 info_int rfl (by decide) (by decide) B 2 _ HF3.out 1 (by omega) ⟨u3, 3, 1, L3.length, ivs L3⟩ rfl rfl rfl rfl #[.int .i64 x] 1 rfl (by simp [Value.oneCell']) rfl HLL3.out HSZ3.out ?_; intro HHv HHw hF2 hb2; obtain ⟨g4, c4, hgv⟩ := (hF2.row 1 (by omega)).slice (by simp [upF]); simp only [upF_eq] at hgv; subst hgv; have hbx := boxM.cells (B := B) (g := B) (t := 51) (c := [_, .int .i64 con]) (hF2.row 0 (by omega)); have x0 := (hbx 0).1; have xf := (hbx 0).2.1; have xz := (hbx 0).2.2; simp at x0; have HH := hide (hF2.store (k := 0) (g := B) (i := 0) (x := .slice (some ⟨g4, 0, none⟩) (L3.length + 1) c4) (by omega) rfl); have HBH := hide ((HBG.out.trans hb2).setCell (p := ⟨B, 0, none⟩) (by simp) (.slice (some ⟨g4, 0, none⟩) (L3.length + 1) c4)); clear hbx hF2 hb2)
        go_roundw
        case rel =>
          refine ⟨j + 1, .slice (some ⟨g4, 0, none⟩) (L3.length + 1) c4, by omega, by go_num, ?_, HBH.out⟩
          rw [stTo, if_pos HJK.out, ← HXX.out, ← HP.out]
          have e : stTo k n xs j ++ [P, x] = L3 ++ [x] := by rw [HL3.out]; simp
          rw [e]
          exact HH.out.congr fun i hi => stM_store B con u3 (.slice (some ⟨g4, 0, none⟩) (L3.length + 1) c4) L3 [x] i hi
        case measure => simp [intOf]; omega
      · have hE : ((j : Int) == (k : Int)) = false := by simp; omega
        have HLL : Hid ((stTo k n xs j).length + 1 ≤ 1000000000) := by rw [Hid]; omega
        have HSZ : Hid (B ≤ wr.heap.size) := by have h1 := HBR.out.size; rw [Hid, HBB.out]; exact h1
        go_wp2_with (at_builtin; refine append_fm rfl (.tmp 33) (.tmp 35) 22 3 _ 1 8 rfl Try.underlying22 info_int rfl (by decide) (by decide) B 2 _ HF.out 1 (by omega) ⟨u, 3, 1, (stTo k n xs j).length, ivs (stTo k n xs j)⟩ rfl rfl rfl rfl #[.int .i64 x] 1 rfl (by simp [Value.oneCell']) rfl HLL.out HSZ.out ?_; intro HGv HGw hF2 hb2; obtain ⟨gg, gc, hgv⟩ := (hF2.row 1 (by omega)).slice (by simp [upF]); simp only [upF_eq] at hgv; subst hgv; have hbx := boxM.cells (B := B) (g := B) (t := 51) (c := [_, .int .i64 con]) (hF2.row 0 (by omega)); have x0 := (hbx 0).1; have xf := (hbx 0).2.1; have xz := (hbx 0).2.2; simp at x0; have HG := hide (hF2.store (k := 0) (g := B) (i := 0) (x := .slice (some ⟨gg, 0, none⟩) ((stTo k n xs j).length + 1) gc) (by omega) rfl); have HBG := hide ((HBR.out.trans hb2).setCell (p := ⟨B, 0, none⟩) (by simp) (.slice (some ⟨gg, 0, none⟩) ((stTo k n xs j).length + 1) gc)); clear hbx hF2 hb2)
        go_roundw
        case rel =>
          refine ⟨j + 1, .slice (some ⟨gg, 0, none⟩) ((stTo k n xs j).length + 1) gc, by omega, by go_num, ?_, HBG.out⟩
          rw [stTo, if_neg hjk, ← HXX.out]
          exact HG.out.congr fun i hi => stM_store B con u (.slice (some ⟨gg, 0, none⟩) ((stTo k n xs j).length + 1) gc) (stTo k n xs j) [x] i hi
        case measure => simp [intOf]; omega
    · obtain rfl : j = cl := by omega
      have hjz : ¬ (j : Int) < (j : Int) := by omega
      have r2 := (HBR.out.block (w.heap.size + 1) (by rw [HBB.out, HZ.out]; omega)).trans HF2.out
      have r0 := blk2_cell r2 0
      have r1 := blk2_cell r2 1
      have rf := blk2_frozen r2 0
      have rf1 := blk2_frozen r2 1
      have rz := (Array.getElem?_eq_some_iff.1 r2).1
      simp at r0 r1
      have HALL : Hid (stTo k n xs j = (stripR k n (xs, con)).1) := by rw [Hid, ← HXL.out]; exact stTo_all (by rw [HXL.out]; exact hk)
      have hne : 0 < (stTo k n xs j).length := by
        rw [HALL.out]
        unfold stripR
        simp
        omega
      obtain ⟨ug, uc, hue⟩ := (HF.out.row 1 (by omega)).slice (by simpa [stM] using hne)
      have hue2 : u = .slice (some ⟨ug, 0, none⟩) (stTo k n xs j).length uc := by simpa [stM] using hue
      subst hue2
      have hown := HF.out.row 1 (by omega)
      clear hue
      go_wp2_with fail
      have hres : ((wr.setCell ⟨w.heap.size + 1, 0, none⟩ (.slice (some ⟨ug, 0, none⟩) (stTo k n xs j).length uc)).setCell ⟨w.heap.size + 1, 1, none⟩ (.int .i64 con)).heap[w.heap.size + 1]? = some (.cells #[.slice (some ⟨ug, 0, none⟩) (stTo k n xs j).length uc, .int .i64 con] 51 (0, 0)) := heap_setCell_same _ _ _ _ _ _ (heap_setCell_same _ _ _ _ _ _ r2)
      refine bodyPost_ret (results_cell_row Try.results51 _ _ (w.heap.size + 1) 51 #[.slice (some ⟨ug, 0, none⟩) (stTo k n xs j).length uc, .int .i64 con] (0, 0) _ rfl hres Try.underlying51 rfl size_rowT) rfl ⟨⟨_, rfl, ?_⟩, ?_⟩
      · rw [← HALL.out]
        have h1 : (⟨.slice (some ⟨ug, 0, none⟩) (stTo k n xs j).length uc, 3, 1, (stTo k n xs j).length, ivs (stTo k n xs j)⟩ : Mb).own wr B := hown
        have h2 := (h1.at (g := ug) rfl).1
        have hbz := HBB.out
        have hz2 := HZ.out
        have h3 := h1.keep (w1 := (wr.setCell ⟨w.heap.size + 1, 0, none⟩ (.slice (some ⟨ug, 0, none⟩) (stTo k n xs j).length uc)).setCell ⟨w.heap.size + 1, 1, none⟩ (.int .i64 con)) fun g e _ => by
          have e2 : ug = g := by simpa [Value.ownBlock] using e
          exact (heap_setCell_other _ _ _ _ (by simp; omega)).trans (heap_setCell_other _ _ _ _ (by simp; omega))
        refine ⟨h3.1, ?_⟩
        rcases h3.2 with h4 | ⟨g, cap, cur, e1, e2, e3⟩
        · exact .inl h4
        · exact .inr ⟨g, cap, cur, e1, by omega, e3⟩
      · have hb2 := (HBW.out.trans (HBR.out.mono (by rw [HBB.out, HZ.out]; omega)))
        exact (hb2.setCell (p := ⟨w.heap.size + 1, 0, none⟩) (by simp) _).setCell (p := ⟨w.heap.size + 1, 1, none⟩) (by simp) _
end Go.Proofs.Ytmmigbkilbfheaa.V
namespace Go.Proofs.Ytmmigbkilbfheaa.V
open Go Go.RowKit
set_option linter.unusedVariables false

/-- What stays. -/
structure TF where
  gt : Nat
  gl : Nat
  kd : Int
  va : Int
  arr : Int
  con : Int
  cb : Int
  up : Value
  lp : List Int
/-- What grows. -/
structure TV where
  ub : Value
  lb : List Int
  uc : Value
  lc : List Int
  ur : Value
  nr : Nat
  cr : List Value
  ug : Value
  ng : Nat
  cg : List Value
  ex : Nat → Mb
def tCs (F : TF) (V : TV) : List Value := [V.ub, V.ur, .int .i64 F.kd, .int .i64 F.va, .int .i64 F.arr, F.up, .int .i64 F.con, V.ug]
def tM (F : TF) (V : TV) : Nat → Mb
  | 0 => boxM F.gt 74 (tCs F V)
  | 1 => ⟨F.up, 3, 1, F.lp.length, ivs F.lp⟩
  | 2 => boxM F.gl 51 [V.uc, .int .i64 F.cb]
  | 3 => ⟨V.ub, 3, 1, V.lb.length, ivs V.lb⟩
  | 4 => ⟨V.uc, 3, 1, V.lc.length, ivs V.lc⟩
  | 5 => ⟨V.ur, 51, 2, V.nr, V.cr⟩
  | 6 => ⟨V.ug, 71, 3, V.ng, V.cg⟩
  | i + 7 => V.ex i
theorem tM_box (F : TF) (V : TV) (v' : Value) (l2 : List Int) : ∀ i, tM F { V with ub := v', lb := V.lb ++ l2 } i = upF (upF (tM F V) 3 ⟨v', 3, 1, V.lb.length + l2.length, ivs V.lb ++ ivs l2⟩) 0 (boxM F.gt 74 ((tCs F V).set 0 v')) i
  | 0 => rfl
  | 1 => rfl
  | 2 => rfl
  | 3 => by simp [tM, upF]
  | 4 => rfl
  | 5 => rfl
  | 6 => rfl
  | i + 7 => by simp [tM, upF]
theorem tM_last (F : TF) (V : TV) (v' : Value) (l2 : List Int) : ∀ i, tM F { V with uc := v', lc := V.lc ++ l2 } i = upF (upF (tM F V) 4 ⟨v', 3, 1, V.lc.length + l2.length, ivs V.lc ++ ivs l2⟩) 2 (boxM F.gl 51 ([V.uc, .int .i64 F.cb].set 0 v')) i
  | 0 => rfl
  | 1 => rfl
  | 2 => rfl
  | 3 => rfl
  | 4 => by simp [tM, upF]
  | 5 => rfl
  | 6 => rfl
  | i + 7 => by simp [tM, upF]
theorem tM_row (F : TF) (V : TV) (v' : Value) (us : List Value) (m : Nat) : ∀ i, tM F { V with ur := v', nr := m, cr := V.cr ++ us } i = upF (upF (tM F V) 5 ⟨v', 51, 2, m, V.cr ++ us⟩) 0 (boxM F.gt 74 ((tCs F V).set 1 v')) i
  | 0 => rfl
  | 1 => rfl
  | 2 => rfl
  | 3 => rfl
  | 4 => rfl
  | 5 => by simp [tM, upF]
  | 6 => rfl
  | i + 7 => by simp [tM, upF]
theorem tM_get (F : TF) (V : TV) (v' : Value) (us : List Value) (m : Nat) : ∀ i, tM F { V with ug := v', ng := m, cg := V.cg ++ us } i = upF (upF (tM F V) 6 ⟨v', 71, 3, m, V.cg ++ us⟩) 0 (boxM F.gt 74 ((tCs F V).set 7 v')) i
  | 0 => rfl
  | 1 => rfl
  | 2 => rfl
  | 3 => rfl
  | 4 => rfl
  | 5 => rfl
  | 6 => by simp [tM, upF]
  | i + 7 => by simp [tM, upF]
theorem tM_ex (F : TF) (V : TV) (n : Nat) (x : Mb) : ∀ i, tM F { V with ex := upF V.ex n x } i = upF (tM F V) (7 + n) x i
  | 0 => by rw [upF_ne (by omega)]; rfl
  | 1 => by rw [upF_ne (by omega)]; rfl
  | 2 => by rw [upF_ne (by omega)]; rfl
  | 3 => by rw [upF_ne (by omega)]; rfl
  | 4 => by rw [upF_ne (by omega)]; rfl
  | 5 => by rw [upF_ne (by omega)]; rfl
  | 6 => by rw [upF_ne (by omega)]; rfl
  | i + 7 => by
    simp only [tM, upF]
    by_cases e : i = n
    · rw [if_pos e, if_pos (by omega)]
    · rw [if_neg e, if_neg (by omega)]
theorem tM_cells {W : World} {B n : Nat} {F : TF} {V : TV} (h : Fm W B n (tM F V)) (hn : 0 < n) (i : Nat) : W.cell? ⟨F.gt, i, none⟩ = (tCs F V)[i]? ∧ W.frozen? ⟨F.gt, i, none⟩ = false ∧ F.gt < W.heap.size := boxM.cells (h.row 0 hn) i
theorem tM_lcells {W : World} {B n : Nat} {F : TF} {V : TV} (h : Fm W B n (tM F V)) (hn : 2 < n) (i : Nat) : W.cell? ⟨F.gl, i, none⟩ = [V.uc, .int .i64 F.cb][i]? ∧ W.frozen? ⟨F.gl, i, none⟩ = false ∧ F.gl < W.heap.size := boxM.cells (h.row 2 hn) i
/-- Cells of things of one size, one behind the other. -/
theorem flat_get {z : Nat} (f : Nat → List Value) (hf : ∀ j, (f j).length = z) : ∀ (l j i : Nat), j < l → i < z → ((List.range l).flatMap f)[j * z + i]? = (f j)[i]?
  | 0, j, i, h, _ => by omega
  | l + 1, j, i, h, hi => by
    rw [List.range_succ, List.flatMap_append]
    have hlen : ((List.range l).flatMap f).length = l * z := by
      clear h
      induction l with
      | zero => simp
      | succ l ih => rw [List.range_succ, List.flatMap_append, List.length_append, ih]; simp [hf]; rw [Nat.succ_mul]
    by_cases e : j = l
    · subst e
      rw [List.getElem?_append_right (by rw [hlen]; omega), hlen]
      simp
    · rw [List.getElem?_append_left]
      · exact flat_get f hf l j i (by omega) hi
      · rw [hlen]
        have : (j + 1) * z ≤ l * z := Nat.mul_le_mul_right z (by omega)
        rw [Nat.succ_mul] at this
        omega
theorem ints_of_mb {W : World} {B : Nat} {v : Value} {l : List Int} (h : (⟨v, 3, 1, l.length, ivs l⟩ : Mb).own W B) (hb : ∀ x ∈ l, -9223372036854775808 ≤ x ∧ x ≤ 9223372036854775807) (hl : l.length ≤ 9223372036854775807) : ∃ a c, v = .slice a l.length c ∧ Lst W a l.length c l := by
  rcases h.2 with ⟨h1, h2⟩ | ⟨g, cap, cur, h1, h3, h4, h5, h6, h7, h8⟩
  · have e : l = [] := List.eq_nil_of_length_eq_zero h2
    subst e
    exact ⟨none, 0, h1, ⟨rfl, by simp, by simp, .inl rfl⟩, by simp, fun _ => rfl⟩
  · refine ⟨_, cap, h1, ⟨rfl, hl, hb, .inr ⟨g, 0, rfl, fun j hj => ?_⟩⟩, h5, fun e => by cases e⟩
    have h9 : (cur.toList.take (l.length * 1))[j]? = (ivs l)[j]? := by rw [h8]
    rw [List.getElem?_take_of_lt (by omega), Array.getElem?_toList] at h9
    rw [Nat.zero_add]
    simp [World.cell?, h4, h9, hj]
theorem cells_of_mb {W : World} {B : Nat} {x : Mb} (h : x.own W B) (h0 : 0 < x.m) : ∃ g cap, x.v = .slice (some ⟨g, 0, none⟩) x.m cap ∧ x.m ≤ cap ∧ ∀ i, i < x.m * x.z → W.cell? ⟨g, i, none⟩ = x.c[i]? := by
  rcases h.2 with ⟨_, h2⟩ | ⟨g, cap, cur, h1, h3, h4, h5, h6, h7, h8⟩
  · omega
  · refine ⟨g, cap, h1, h5, fun i hi => ?_⟩
    have h9 : (cur.toList.take (x.m * x.z))[i]? = x.c[i]? := by rw [h8]
    rw [List.getElem?_take_of_lt (by omega), Array.getElem?_toList] at h9
    simp [World.cell?, h4, h9]
/-- Rows whose numbers are members. -/
theorem rws_of_mb {W : World} {B : Nat} {ur : Value} {rs : List (List Int × Int)} (vs : Nat → Value) (h : (⟨ur, 51, 2, rs.length, (List.range rs.length).flatMap fun j => [vs j, .int .i64 (rs[j]?.getD ([], 0)).2]⟩ : Mb).own W B) (hv : ∀ j, j < rs.length → (⟨vs j, 3, 1, (rs[j]?.getD ([], 0)).1.length, ivs (rs[j]?.getD ([], 0)).1⟩ : Mb).own W B)
    (hb : ∀ r ∈ rs, B64 r.2 ∧ r.1.length ≤ 1000000000 ∧ ∀ c ∈ r.1, B64 c) (hl : rs.length ≤ 1000000000) : ∃ a c, ur = .slice a rs.length c ∧ Rws W a rs.length rs := by
  by_cases h0 : rs.length = 0
  · rcases h.2 with ⟨h1, h2⟩ | ⟨g, cap, cur, h1, _⟩
    · exact ⟨none, 0, by rw [h0]; exact h1, rfl, by omega, .inl h0⟩
    · exact ⟨_, cap, h1, rfl, by omega, .inl h0⟩
  · obtain ⟨g, cap, e, _, hc⟩ := cells_of_mb h (by simp only; omega)
    refine ⟨_, cap, e, rfl, by omega, .inr ⟨g, 0, rfl, fun j hj => ?_⟩⟩
    simp only at hc
    have c0 := hc (j * 2) (by omega)
    have c1 := hc (j * 2 + 1) (by omega)
    have g0 := flat_get (z := 2) (fun j => [vs j, .int .i64 (rs[j]?.getD ([], 0)).2]) (fun _ => rfl) rs.length j 0 hj (by omega)
    have g1 := flat_get (z := 2) (fun j => [vs j, .int .i64 (rs[j]?.getD ([], 0)).2]) (fun _ => rfl) rs.length j 1 hj (by omega)
    rw [Nat.add_zero] at g0
    rw [g0] at c0
    rw [g1] at c1
    have hr := hb (rs[j]?.getD ([], 0)) (by simp [hj])
    obtain ⟨a, c, ev, hi⟩ := ints_of_mb (hv j hj) hr.2.2 (by omega)
    refine ⟨a, _, c, ?_, ?_, hi.1, ⟨hi.2.1, hi.2.2⟩, hr.1⟩
    · rw [Nat.zero_add, c0, ← ev]
      rfl
    · rw [Nat.zero_add, c1]
      rfl
theorem accs_of_mb {W : World} {B : Nat} {ug : Value} {gs : List Acc} (vs : Nat → Value) (h : (⟨ug, 71, 3, gs.length, (List.range gs.length).flatMap fun j => [.int .i64 (gs[j]?.getD accD).1, vs j, .int .i64 (gs[j]?.getD accD).2.2]⟩ : Mb).own W B) (hv : ∀ j, j < gs.length → (⟨vs j, 3, 1, (gs[j]?.getD accD).2.1.length, ivs (gs[j]?.getD accD).2.1⟩ : Mb).own W B)
    (hb : ∀ r ∈ gs, B64 r.1 ∧ B64 r.2.2 ∧ r.2.1.length ≤ 1000000000 ∧ ∀ c ∈ r.2.1, B64 c) (hl : gs.length ≤ 1000000000) : ∃ a c, ug = .slice a gs.length c ∧ Accs W a gs.length gs := by
  by_cases h0 : gs.length = 0
  · rcases h.2 with ⟨h1, h2⟩ | ⟨g, cap, cur, h1, _⟩
    · exact ⟨none, 0, by rw [h0]; exact h1, rfl, by omega, .inl h0⟩
    · exact ⟨_, cap, h1, rfl, by omega, .inl h0⟩
  · obtain ⟨g, cap, e, _, hc⟩ := cells_of_mb h (by simp only; omega)
    refine ⟨_, cap, e, rfl, by omega, .inr ⟨g, 0, rfl, fun j hj => ?_⟩⟩
    simp only at hc
    have c0 := hc (j * 3) (by omega)
    have c1 := hc (j * 3 + 1) (by omega)
    have c2 := hc (j * 3 + 2) (by omega)
    have g0 := flat_get (z := 3) (fun j => [.int .i64 (gs[j]?.getD accD).1, vs j, .int .i64 (gs[j]?.getD accD).2.2]) (fun _ => rfl) gs.length j 0 hj (by omega)
    have g1 := flat_get (z := 3) (fun j => [.int .i64 (gs[j]?.getD accD).1, vs j, .int .i64 (gs[j]?.getD accD).2.2]) (fun _ => rfl) gs.length j 1 hj (by omega)
    have g2 := flat_get (z := 3) (fun j => [.int .i64 (gs[j]?.getD accD).1, vs j, .int .i64 (gs[j]?.getD accD).2.2]) (fun _ => rfl) gs.length j 2 hj (by omega)
    rw [Nat.add_zero] at g0
    rw [g0] at c0
    rw [g1] at c1
    rw [g2] at c2
    have hr := hb (gs[j]?.getD accD) (by simp [hj])
    obtain ⟨a, c, ev, hi⟩ := ints_of_mb (hv j hj) hr.2.2.2 (by omega)
    refine ⟨?_, ⟨a, _, c, ?_, ?_, hi.1, ⟨hi.2.1, hi.2.2⟩, hr.2.1⟩, hr.1⟩
    · rw [Nat.zero_add, c0]
      rfl
    · rw [Nat.zero_add, c1, ← ev]
      rfl
    · rw [Nat.zero_add, show j * 3 + 1 + 1 = j * 3 + 2 by omega, c2]
      rfl
end Go.Proofs.Ytmmigbkilbfheaa.V
