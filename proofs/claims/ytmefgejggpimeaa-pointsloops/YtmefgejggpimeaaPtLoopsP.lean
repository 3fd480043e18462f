/-
  Contract: points.Loops.
-/
import Derived.Test.YtmefgejggpimeaaPtBind
import Derived.Test.YtmefgejggpimeaaPtCount
namespace Go.Proofs.Ytmefgejggpimeaa.V
open Go.RowKit
set_option linter.unusedVariables false

/-- The table while it is made: M rows of N. -/
structure PTable (w : World) (B L N M : Nat) (g : Nat → Value) (T : Nat → List LpB) : Prop where
  row : w.rowIs L 48 N g
  sl : ∀ s, s < N → ∃ a l c, g s = .slice a l c
  side : ∀ s, s < M → Side w B (g s) (T s)
  apart : ∀ s t, s < M → t < M → s ≠ t → (g s).ownBlock ≠ (g t).ownBlock
  base : B ≤ L
theorem PTable.full {w : World} {B L N : Nat} {g : Nat → Value} {T : Nat → List LpB} (h : PTable w B L N N g T) : Table w B L N g T := ⟨h.row, h.side, h.apart, h.base⟩
theorem PTable.two {w w1 : World} {B L N M g1 g2 : Nat} {g : Nat → Value} {T : Nat → List LpB} (h : PTable w B L N M g T) (hM : M + 2 ≤ N) (hb : Below w.heap.size w w1) (hB : B ≤ w.heap.size) (s1 : Side w1 w.heap.size (.slice (some ⟨g1, 0, none⟩) 1 1) (T M)) (s2 : Side w1 w.heap.size (.slice (some ⟨g2, 0, none⟩) 1 1) (T (M + 1))) (hg : w.heap.size ≤ g1 ∧ g1 < g2) :
    PTable ((w1.setCell ⟨L, M, none⟩ (.slice (some ⟨g1, 0, none⟩) 1 1)).setCell ⟨L, M + 1, none⟩ (.slice (some ⟨g2, 0, none⟩) 1 1)) B L N (M + 2) (fun t => if t = M + 1 then .slice (some ⟨g2, 0, none⟩) 1 1 else if t = M then .slice (some ⟨g1, 0, none⟩) 1 1 else g t) T := by
  have r1 : w1.rowIs L 48 N g := h.row.of_block (hb.block L h.row.lt)
  have hL := h.row.lt
  have hXL : ∃ a l c, w1.cell? ⟨L, 0, none⟩ = some (.slice a l c) := by
    obtain ⟨a, l, c, e⟩ := h.sl 0 (by omega)
    exact ⟨a, l, c, (r1.cell (i := 0) (by omega)).trans (by rw [e])⟩
  have hk : ∀ b, b < w1.heap.size → b ≠ L → ((w1.setCell ⟨L, M, none⟩ (.slice (some ⟨g1, 0, none⟩) 1 1)).setCell ⟨L, M + 1, none⟩ (.slice (some ⟨g2, 0, none⟩) 1 1)).heap[b]? = w1.heap[b]? := fun b _ hb => (Below.heap_setCell _ _ _ _ hb).trans (Below.heap_setCell _ _ _ _ hb)
  have keep : ∀ {v : Value} {bs : List LpB}, Side w1 B v bs → Side ((w1.setCell ⟨L, M, none⟩ (.slice (some ⟨g1, 0, none⟩) 1 1)).setCell ⟨L, M + 1, none⟩ (.slice (some ⟨g2, 0, none⟩) 1 1)) B v bs := fun hs => hs.keep hk hXL (hs.ne r1)
  have old : ∀ t, t < M → ∃ b, (g t).ownBlock = some b ∧ b < w.heap.size := fun t ht => by
    obtain ⟨b, _, _, _, _, _, hlt, eo, _⟩ := (h.side t ht).own
    exact ⟨b, eo, hlt⟩
  refine ⟨(r1.set M _).set (M + 1) _, fun s hs => ?_, fun s hs => ?_, fun s t hs ht hne => ?_, h.base⟩
  · by_cases e1 : s = M + 1
    · rw [if_pos e1]; exact ⟨_, _, _, rfl⟩
    · rw [if_neg e1]
      by_cases e2 : s = M
      · rw [if_pos e2]; exact ⟨_, _, _, rfl⟩
      · rw [if_neg e2]; exact h.sl s hs
  · by_cases e1 : s = M + 1
    · subst e1
      rw [if_pos rfl]
      exact keep (s2.base hB)
    · rw [if_neg e1]
      by_cases e2 : s = M
      · subst e2
        rw [if_pos rfl]
        exact keep (s1.base hB)
      · rw [if_neg e2]
        exact keep ((h.side s (by omega)).below hb)
  · have own : ∀ t, t < M + 2 → ∃ b, ((if t = M + 1 then Value.slice (some ⟨g2, 0, none⟩) 1 1 else if t = M then .slice (some ⟨g1, 0, none⟩) 1 1 else g t).ownBlock = some b) ∧ (t = M + 1 → b = g2) ∧ (t = M → b = g1) ∧ (t < M → b < w.heap.size ∧ (g t).ownBlock = some b) := fun t ht => by
      by_cases e1 : t = M + 1
      · exact ⟨g2, by rw [if_pos e1]; rfl, fun _ => rfl, fun e => by omega, fun e => by omega⟩
      · by_cases e2 : t = M
        · exact ⟨g1, by rw [if_neg e1, if_pos e2]; rfl, fun e => by omega, fun _ => rfl, fun e => by omega⟩
        · obtain ⟨b, eb, hb⟩ := old t (by omega)
          exact ⟨b, by rw [if_neg e1, if_neg e2]; exact eb, fun e => by omega, fun e => by omega, fun _ => ⟨hb, eb⟩⟩
    obtain ⟨b, e, p1, p2, p3⟩ := own s hs
    obtain ⟨b', e', q1, q2, q3⟩ := own t ht
    rw [e, e']
    intro ee
    have ee := Option.some.inj ee
    by_cases a1 : s = M + 1
    · have := p1 a1
      by_cases a2 : t = M
      · have := q2 a2; omega
      · have := (q3 (by omega)).1; omega
    · by_cases a3 : s = M
      · have := p2 a3
        by_cases a2 : t = M + 1
        · have := q1 a2; omega
        · have := (q3 (by omega)).1; omega
      · have h3 := p3 (by omega)
        by_cases a2 : t = M + 1
        · have := q1 a2; omega
        · by_cases a4 : t = M
          · have := q2 a4; omega
          · have h4 := q3 (by omega)
            exact h.apart s t (by omega) (by omega) hne (by rw [h3.2, h4.2, ee])
/-- The rows of bounds ahead of all rows. -/
def tab0 (es : List Int) (s : Nat) : List LpB := if s % 2 = 0 then [⟨List.replicate (s / 2) 0, 0, 1⟩] else [⟨List.replicate (s / 2) 0, es[s / 2]?.getD 0 - 1, 1⟩]
def tabT (rs : List (List Int × Int)) (T : Nat → List LpB) : Nat → List LpB := rs.foldl (fun T r => bindT r T) T
theorem tabT_snoc (rs : List (List Int × Int)) (r : List Int × Int) (T : Nat → List LpB) : tabT (rs ++ [r]) T = bindT r (tabT rs T) := by simp [tabT]
theorem bindT_len (r : List Int × Int) (T : Nat → List LpB) (s : Nat) : (bindT r T s).length ≤ (T s).length + 1 := by
  unfold bindT
  split <;> simp
theorem tabT_len : ∀ (rs : List (List Int × Int)) (T : Nat → List LpB) (n : Nat), (∀ s, (T s).length ≤ n) → ∀ s, (tabT rs T s).length ≤ n + rs.length
  | [], T, n, h, s => by simpa [tabT] using h s
  | r :: rs, T, n, h, s => by
    have := tabT_len rs (bindT r T) (n + 1) (fun s => by have := bindT_len r T s; have := h s; omega) s
    simp only [tabT, List.foldl_cons, List.length_cons] at this ⊢
    omega
theorem tab0_len (es : List Int) (s : Nat) : (tab0 es s).length ≤ 1 := by
  unfold tab0
  split <;> simp
/-- The ends that the loops have: none, if there are no points. -/
def endsOf (box : List Int) (rs : List (List Int × Int)) : List Int := if (pts box rs).length = 0 then List.replicate box.length 0 else box
theorem endsOf_at (box : List Int) (rs : List (List Int × Int)) (k : Nat) : (endsOf box rs)[k]?.getD 0 = if (pts box rs).length = 0 then 0 else box[k]?.getD 0 := by
  unfold endsOf
  split
  · by_cases h : k < box.length
    · simp [h]
    · simp [h]
  · rfl
theorem tab0_even (es : List Int) (k : Nat) : tab0 es (k * 2) = [⟨List.replicate k 0, 0, 1⟩] := by
  unfold tab0
  rw [if_pos (by omega), show k * 2 / 2 = k by omega]
theorem tab0_odd (es : List Int) (k : Nat) : tab0 es (k * 2 + 1) = [⟨List.replicate k 0, es[k]?.getD 0 - 1, 1⟩] := by
  unfold tab0
  rw [if_neg (by omega), show (k * 2 + 1) / 2 = k by omega]

theorem info_loop : (Try.prog.info? 48).map (fun i => (i.zero, i.size, i.bytes)) = some (some (.agg #[.slice none 0 0, .slice none 0 0]), 2, 48) := by kernel_rfl
theorem pTable_new (W : World) (n : Nat) (T : Nat → List LpB) : ∃ g, PTable (W.alloc (.cells (madeCells #[.slice none 0 0, .slice none 0 0] (n * 2)) 48)) W.heap.size W.heap.size (n * 2) 0 g T := by
  refine ⟨fun i => (#[Value.slice none 0 0, .slice none 0 0])[i % 2]!, ⟨_, World.alloc_heap_new _ _, size_madeCells _ _, fun i hi => by simp [madeCells, hi]⟩, fun s hs => ⟨none, 0, 0, ?_⟩, fun s hs => by omega, fun s t hs => by omega, Nat.le_refl _⟩
  have : s % 2 = 0 ∨ s % 2 = 1 := by omega
  rcases this with h | h <;> simp [h]
set_option maxHeartbeats 1000000 in
theorem ptLoops_bad (ba : Option Addr) (bl bc : Nat) (box : List Int) (ra : Option Addr) (rl rc : Nat) (rs : List (List Int × Int)) (w : World) (h : Ints w ba bl box) (hr : Rws w ra rl rs) (hE : ptE box rs ≠ 0) :
    Calls Try.prog 22 #[.agg #[.slice ba bl bc, .slice ra rl rc]] w fun e w' => e = .returned (.tuple #[.slice none 0 0, .int .i64 (ptE box rs)]) ∧ Below w.heap.size w w' := by
  have B1 : Below w.heap.size w (w.alloc (.cells #[.slice ba bl bc, .slice ra rl rc] 25)) := bl_new _
  have HW := hide (ptCount_bad ba bl bc box ra rl rc rs _ (h.below B1) (hr.below B1) hE)
  have HB := hide B1
  have c2 : (ptE box rs != 0) = true := by simpa using hE
  clear h hr B1 hE
  go_enter Try.func22, Try.ntmps22
  go_wp2_with (go_at_call 8; refine HW.out.mono ?_; rintro e w1 ⟨rfl, hb⟩; have HB1 := hide (bl_on HB.out hb); clear hb)
  go_ret2
  exact ⟨rfl, HB1.out⟩
set_option maxHeartbeats 8000000 in
theorem ptLoops_ok (ba : Option Addr) (bl bc : Nat) (box : List Int) (ra : Option Addr) (rl rc : Nat) (rs : List (List Int × Int)) (w : World) (h : Ints w ba bl box) (hr : Rws w ra rl rs) (hE : ptE box rs = 0) :
    Calls Try.prog 22 #[.agg #[.slice ba bl bc, .slice ra rl rc]] w fun e w' => (∃ (L B : Nat) (g : Nat → Value), e = .returned (.tuple #[.slice (some ⟨L, 0, none⟩) bl bl, .int .i64 0]) ∧ Table w' B L (bl * 2) g (tabT rs (tab0 (endsOf box rs))) ∧ w.heap.size ≤ B) ∧ Below w.heap.size w w' := by
  have ho := ptE_ok hE
  have B1 : Below w.heap.size w (w.alloc (.cells #[.slice ba bl bc, .slice ra rl rc] 25)) := bl_new _
  have HW := hide (callsIn_wide.1 (ptCount_ok ba bl bc box ra rl rc rs _ (h.below B1) (hr.below B1) hE))
  have HP := hide (PtAt.new w ba bl bc ra rl rc)
  have HB := hide B1
  have H := hide h
  have HR := hide hr
  have HL := hide h.1
  have HRL := hide hr.1
  have HO := hide ho
  have h4 : bl ≤ 4 := by have := ho.rank; rw [h.1] at this; exact this
  have h8 : rl ≤ 8 := by have := ho.many; rw [hr.1] at this; exact this
  have HEO := hide (endsOf_at box rs)
  obtain ⟨n, hn⟩ : ∃ n, n = (pts box rs).length := ⟨_, rfl⟩
  have hn4 : n ≤ 4096 := by rw [hn]; exact pts_len ho
  rw [← hn] at HW HEO
  have zA : w.heap.size < (w.alloc (.cells #[.slice ba bl bc, .slice ra rl rc] 25)).heap.size := by simp
  obtain ⟨i0, hi, hz0, hz1, hz2⟩ := info_parts info_loop
  have hmk : ∀ W : World, (Instr.makeSlice 43 (.int .i64 (bl : Int)) (.int .i64 (bl : Int))).run Try.prog W = .ok (.slice (some ⟨W.heap.size, 0, none⟩) bl bl) (W.alloc (.cells (madeCells #[.slice none 0 0, .slice none 0 0] (bl * 2)) 48)) := fun W => by
    have := run_make (P := Try.prog) W 43 48 i0 (.agg #[.slice none 0 0, .slice none 0 0]) Try.underlying43 hi hz0 .i64 .i64 bl bl (by omega) (by omega) (by rw [hz2]; omega) (by omega)
    simpa [hz1, Value.cells] using this
  clear h hr B1 hE ho hn hi hz0 hz1 hz2
  go_enter Try.func22, Try.ntmps22
  go_wp2_with (go_at_call 8; refine HW.out.mono ?_; rintro e w1 ⟨rfl, hb⟩; have HB1 := hide (bl_on HB.out hb); have P1 := HP.out.below hb; have HP1 := hide P1; obtain ⟨p0, p1⟩ := P1.cells; have zP := P1.lt; clear hb P1)
  clear hmk p0 p1 zP
  obtain ⟨g00, hg00⟩ := pTable_new w1 bl (tab0 (endsOf box rs))
  have hbA : Below w1.heap.size w1 (w1.alloc (.cells (madeCells #[.slice none 0 0, .slice none 0 0] (bl * 2)) 48)) := bl_new _
  have hP2 := HP1.out.below hbA
  have hB2 := bl_on HB1.out hbA
  have hzw := HB1.out.size
  have hzp := HP1.out.lt
  obtain ⟨W1, hW1⟩ : ∃ W1, W1 = w1.alloc (.cells (madeCells #[.slice none 0 0, .slice none 0 0] (bl * 2)) 48) := ⟨_, rfl⟩
  have hzW : W1.heap.size = w1.heap.size + 1 := by rw [hW1]; simp
  rw [← hW1] at hg00 hbA hP2 hB2 ⊢
  have HG0 := hide hg00
  have HP2 := hide hP2
  have HB2 := hide hB2
  clear hg00 hbA hP2 hB2 hW1 HP1 HB1 HW HP HB zA
  obtain ⟨B, hB⟩ : ∃ B, B = w1.heap.size := ⟨_, rfl⟩
  rw [← hB] at HG0 hzw hzp hzW ⊢
  clear hB
  go_loopw [26] (fun i wr => ∃ (k : Nat) (g : Nat → Value), k ≤ bl ∧ i = .int .i64 k ∧ PTable wr B B (bl * 2) (k * 2) g (tab0 (endsOf box rs)) ∧ Below B W1 wr ∧ B ≤ wr.heap.size) (fun i _ => bl - (intOf i).toNat)
  case atStart => exact ⟨0, g00, Nat.zero_le _, rfl, by simpa using HG0.out, Below.refl _ _, by omega⟩
  case round =>
    obtain ⟨k, g, hk, rfl, hT, hBr, hBz⟩ := hrel
    have HT := hide hT
    have HBr := hide hBr
    have HBW := hide (HB2.out.trans (hBr.mono hzw))
    by_cases hlt : k < bl
    · obtain ⟨b, off, rfl, hb, hcc⟩ := (H.out.below HBW.out).at (by omega)
      have hck := hcc k hlt
      have zb := lt_of_cell hck
      simp only at zb
      have hkb : k < box.length := by rw [HL.out]; exact hlt
      have hdm := HO.out.dims _ (mem_getD box k hkb)
      have hsE := tab0_even (endsOf box rs) k
      have hsO := tab0_odd (endsOf box rs) k
      have heo := HEO.out k
      obtain ⟨x, hx⟩ : ∃ x, x = box[k]?.getD 0 := ⟨_, rfl⟩
      rw [← hx] at hck hdm heo
      obtain ⟨ee, hee⟩ : ∃ ee : Int, ee = if n = 0 then 0 else x := ⟨_, rfl⟩
      rw [heo, ← hee] at hsO
      have heb : 0 ≤ ee ∧ ee ≤ 4096 := by rw [hee]; split <;> omega
      have HE := hide hsE
      have HO' := hide hsO
      have HC := hide (boxLoop_any k ee wr (by omega) heb)
      have HEE := hide hee
      clear hcc hkb hdm hsE hsO heo hx hee hT hBr
      by_cases hn0 : n = 0
      · have : ee = 0 := by rw [HEE.out, if_pos hn0]
        rw [this] at HC
        have HZ := hide this
        have hnz : ((n : Int) == 0) = true := by simpa using hn0
        clear this hn0 HEE
        go_wp2_with fail
        refine HC.out.mono ?_
        rintro e w3 ⟨⟨g1, g2, rfl, s1, s2, hg1, hg2⟩, hb3⟩
        have r3 := HT.out.row.of_block (hb3.block B HT.out.row.lt)
        obtain ⟨a1, l1, c1, e1⟩ := HT.out.sl (k * 2) (by omega)
        obtain ⟨a2, l2, c2, e2⟩ := HT.out.sl (k * 2 + 1) (by omega)
        have d1 := r3.cell (i := k * 2) (by omega)
        have d2 := r3.cell (i := k * 2 + 1) (by omega)
        rw [e1] at d1
        rw [e2] at d2
        have d3 := r3.frozen (k * 2)
        have d4 := r3.frozen (k * 2 + 1)
        have z3 := r3.lt
        have HN := hide (HT.out.two (by omega) hb3 hBz (by rw [HE.out]; exact s1) (by rw [HO'.out, HZ.out]; exact s2) ⟨hg1, hg2⟩)
        have HB3 := hide (((HBr.out.trans (hb3.mono hBz)).setCell (p := ⟨B, k * 2, none⟩) (Nat.le_refl _) (.slice (some ⟨g1, 0, none⟩) 1 1)).setCell (p := ⟨B, k * 2 + 1, none⟩) (Nat.le_refl _) (.slice (some ⟨g2, 0, none⟩) 1 1))
        have hz3 := hb3.size
        clear r3 e1 e2 s1 s2 hb3
        go_wp2_with fail
        go_roundw
        case rel => exact ⟨k + 1, _, by omega, by go_num, by rw [show (k + 1) * 2 = k * 2 + 2 by omega]; exact HN.out, HB3.out, by simp; omega⟩
        case measure => simp [intOf]; omega
      · have : ee = x := by rw [HEE.out, if_neg hn0]
        rw [this] at HC
        have HZ := hide this
        have hnz : ((n : Int) == 0) = false := by simpa using hn0
        clear this
        go_wp2_with fail
        refine HC.out.mono ?_
        rintro e w3 ⟨⟨g1, g2, rfl, s1, s2, hg1, hg2⟩, hb3⟩
        have r3 := HT.out.row.of_block (hb3.block B HT.out.row.lt)
        obtain ⟨a1, l1, c1, e1⟩ := HT.out.sl (k * 2) (by omega)
        obtain ⟨a2, l2, c2, e2⟩ := HT.out.sl (k * 2 + 1) (by omega)
        have d1 := r3.cell (i := k * 2) (by omega)
        have d2 := r3.cell (i := k * 2 + 1) (by omega)
        rw [e1] at d1
        rw [e2] at d2
        have d3 := r3.frozen (k * 2)
        have d4 := r3.frozen (k * 2 + 1)
        have z3 := r3.lt
        have HN := hide (HT.out.two (by omega) hb3 hBz (by rw [HE.out]; exact s1) (by rw [HO'.out, HZ.out]; exact s2) ⟨hg1, hg2⟩)
        have HB3 := hide (((HBr.out.trans (hb3.mono hBz)).setCell (p := ⟨B, k * 2, none⟩) (Nat.le_refl _) (.slice (some ⟨g1, 0, none⟩) 1 1)).setCell (p := ⟨B, k * 2 + 1, none⟩) (Nat.le_refl _) (.slice (some ⟨g2, 0, none⟩) 1 1))
        have hz3 := hb3.size
        clear r3 e1 e2 s1 s2 hb3
        go_wp2_with fail
        go_roundw
        case rel => exact ⟨k + 1, _, by omega, by go_num, by rw [show (k + 1) * 2 = k * 2 + 2 by omega]; exact HN.out, HB3.out, by simp; omega⟩
        case measure => simp [intOf]; omega
    · obtain rfl : k = bl := by omega
      have T1 := HT.out.full
      have HTT := hide T1
      have P1 : PtAt wr w.heap.size ba k bc ra rl rc := (HBr.out.block _ hzp).trans HP2.out
      obtain ⟨p0, p1⟩ := P1.cells
      have zP := P1.lt
      clear hT hBr T1 P1
      go_wp2_with fail
      clear p0 p1 zP
      go_loopw [43] (fun i wr => ∃ (j : Nat) (g : Nat → Value), j ≤ rl ∧ i = .int .i64 j ∧ Table wr B B (k * 2) g (tabT (rs.take j) (tab0 (endsOf box rs))) ∧ Below B W1 wr ∧ B ≤ wr.heap.size) (fun i _ => rl - (intOf i).toNat)
      case atStart => exact ⟨0, g, Nat.zero_le _, rfl, by simpa [tabT] using HTT.out, HBr.out, hBz⟩
      case round =>
        clear HTT HBr HT HBW hBz
        obtain ⟨j, g, hj, rfl, hT, hBr, hBz⟩ := hrel
        have HT := hide hT
        have HBr := hide hBr
        have HBW := hide (HB2.out.trans (hBr.mono hzw))
        by_cases hlt2 : j < rl
        · have hjl : j < rs.length := by rw [HRL.out]; exact hlt2
          obtain ⟨b, off, rfl, hat⟩ := HR.out.at (by omega)
          obtain ⟨a, l, c, c1, c2, c3, c4, c5⟩ := hat j hlt2
          have hrow := HO.out.rows _ (mem_getR rs j hjl)
          have hsn := tabT_snoc (rs.take j) (rs[j]?.getD ([], 0)) (tab0 (endsOf box rs))
          rw [← take_succR rs j hjl] at hsn
          obtain ⟨q, hq⟩ : ∃ q, q = rs[j]?.getD ([], 0) := ⟨_, rfl⟩
          rw [← hq] at c2 c3 hrow hsn
          obtain ⟨cs, K⟩ := q
          simp only at c2 c3 hrow
          have hll : cs.length = l := c3.1
          obtain ⟨hr1, hr2, hr3⟩ := hrow
          obtain rfl : l = k := by rw [← hll, hr1, HL.out]
          have d1 := (HBW.out.cell (p := ⟨b, off + j * 2, none⟩) (lt_of_cell c1)).trans c1
          have d2 := (HBW.out.cell (p := ⟨b, off + j * 2 + 1, none⟩) (lt_of_cell c2)).trans c2
          have z1 := lt_of_cell d1
          have z2 := lt_of_cell d2
          simp only at z1 z2
          have B3 : Below wr.heap.size wr (wr.alloc (.cells #[.slice a l c, .int .i64 K] 56)) := bl_new _
          have hlen : ∀ s, (tabT (rs.take j) (tab0 (endsOf box rs)) s).length ≤ 100 := fun s => by
            have h1 := tabT_len (rs.take j) (tab0 (endsOf box rs)) 1 (tab0_len _) s
            have h2 : (rs.take j).length ≤ j := by rw [List.length_take]; omega
            omega
          have HC := hide (bind_any a l c cs K B B g (tabT (rs.take j) (tab0 (endsOf box rs))) (wr.alloc (.cells #[.slice a l c, .int .i64 K] 56)) (c3.below (bl_on HBW.out B3)) (by omega) (fun b' off' e h0 => by
            obtain ⟨b2, off2, e2, hb2, _⟩ := c3.at h0
            rw [e] at e2
            cases e2
            omega) hr2 hr3 (hT.below B3) (by rw [World.size_alloc]; omega) hlen)
          have HB3 := hide B3
          have HSN := hide hsn
          clear hat c1 c2 c3 c4 c5 hq hsn hll hr1 hr2 hr3 B3 hlen hT hBr hjl
          go_wp2_with fail
          refine HC.out.mono ?_
          rintro e w3 ⟨⟨rfl, g', hT3⟩, hb3⟩
          have HT3 := hide hT3
          have HBB3 := hide (HBr.out.trans ((HB3.out.mono hBz).trans hb3))
          have hz3 := hb3.size
          clear hT3 hb3
          go_wp2_with fail
          go_roundw
          case rel => exact ⟨j + 1, g', by omega, by go_num, by rw [HSN.out]; exact HT3.out, HBB3.out, by rw [World.size_alloc] at hz3; omega⟩
          case measure => simp [intOf]; omega
        · obtain rfl : j = rl := by omega
          have HT3 : Hid (Table wr B B (k * 2) g (tabT rs (tab0 (endsOf box rs)))) := by
            have := hT
            rw [List.take_of_length_le (by rw [HRL.out]; exact Nat.le_refl _)] at this
            exact this
          clear hT hBr
          go_wp2_with fail
          go_ret2
          exact ⟨⟨B, B, g, rfl, HT3.out, hzw⟩, HBW.out⟩
end Go.Proofs.Ytmefgejggpimeaa.V
