/-
  Contracts: points.fresh (a description of points in memory of its own), points.All.
-/
import Derived.Test.YtindmfpfpooijaaPtThrough
import Derived.Test.YtindmfpfpooijaaFresh
import Derived.Deep.RegionWith
namespace Go.Proofs.Ytindmfpfpooijaa.V
open Go.RowKit
set_option linter.unusedVariables false

/-- A row of the call's own: its Coef lies in a block of its own. -/
def RowNew (w : World) (g l : Nat) (cs : List Int) (N : Nat) : Prop := RowI w g l cs ∧ N ≤ g
set_option maxHeartbeats 4000000 in
theorem fresh1_any (a : Option Addr) (l c : Nat) (cs : List Int) (K : Int) (w : World) (h : Ints w a l cs) (h6 : l ≤ 4) :
    Calls Try.prog 44 #[.agg #[.slice a l c, .int .i64 K]] w fun e w' => (∃ g : Nat, e = .returned (.agg #[.slice (some ⟨g, 0, none⟩) l l, .int .i64 K]) ∧ RowI w' g l cs ∧ w.heap.size + 2 ≤ g) ∧ Below w.heap.size w w' := by
  have B1 : Below w.heap.size w ((w.alloc (.cells #[.slice a l c, .int .i64 K] 41)).alloc (.cells #[.slice none 0 0, .int .i64 0] 41)) := bl_on (bl_new _) (bl_new _)
  have HB := hide B1
  have H := hide (h.below B1)
  have b1 : ((w.alloc (.cells #[.slice a l c, .int .i64 K] 41)).alloc (.cells #[.slice none 0 0, .int .i64 0] 41)).heap[w.heap.size]? = some (.cells #[.slice a l c, .int .i64 K] 41 (0, 0)) := (Below.heap_alloc _ _ _ (by simp)).trans (World.alloc_heap_new _ _)
  have b2 : ((w.alloc (.cells #[.slice a l c, .int .i64 K] 41)).alloc (.cells #[.slice none 0 0, .int .i64 0] 41)).heap[w.heap.size + 1]? = some (.cells #[.slice none 0 0, .int .i64 0] 41 (0, 0)) := by have := World.alloc_heap_new (w.alloc (.cells #[.slice a l c, .int .i64 K] 41)) (.cells #[.slice none 0 0, .int .i64 0] 41); simpa using this
  obtain ⟨W1, hW1⟩ : ∃ W1, W1 = (w.alloc (.cells #[.slice a l c, .int .i64 K] 41)).alloc (.cells #[.slice none 0 0, .int .i64 0] 41) := ⟨_, rfl⟩
  rw [← hW1] at HB H b1 b2
  have hz : W1.heap.size = w.heap.size + 2 := by rw [hW1]; simp
  have HC := hide (fun W (hb : Below W1.heap.size W1 W) => fresh_any a l c cs W (H.out.below hb) (by omega))
  have HW1 := hide hW1
  have k1 : W1.cell? ⟨w.heap.size, 0, none⟩ = some (.slice a l c) := by simp [World.cell?, b1]
  have k2 : W1.cell? ⟨w.heap.size, 1, none⟩ = some (.int .i64 K) := by simp [World.cell?, b1]
  have k3 : W1.cell? ⟨w.heap.size + 1, 0, none⟩ = some (.slice none 0 0) := by simp [World.cell?, b2]
  have k4 : W1.cell? ⟨w.heap.size + 1, 1, none⟩ = some (.int .i64 0) := by simp [World.cell?, b2]
  have k5 : W1.frozen? ⟨w.heap.size + 1, 0, none⟩ = false := by simp [World.frozen?, b2]
  have k6 : W1.frozen? ⟨w.heap.size + 1, 1, none⟩ = false := by simp [World.frozen?, b2]
  have HBL2 := hide b2
  have HK := hide (And.intro (And.intro k1 k2) (And.intro (And.intro k3 k4) (And.intro k5 k6)))
  clear h B1 b1 b2 hW1 k1 k2 k3 k4 k5 k6
  go_enter Try.func44, Try.ntmps44
  go_wp2_with fail
  rw [← HW1.out]
  obtain ⟨⟨k1, k2⟩, ⟨k3, k4⟩, k5, k6⟩ := HK.out
  have hlt : w.heap.size + 1 < W1.heap.size := by omega
  go_region_with (go_at_call 42; refine (HC.out _ (Below.refl _ _).drew).mono ?_; rintro e w2 ⟨⟨g, rfl, r, hg⟩, hb⟩; have hb' := (Below.refl W1.heap.size W1).drew.trans hb; have HR := hide r; have HBb := hide hb'; have hg' : W1.heap.size ≤ g := hg; have j1 := (hb'.cell (p := ⟨w.heap.size, 0, none⟩) (by simp only; omega)).trans k1; have j2 := (hb'.cell (p := ⟨w.heap.size, 1, none⟩) (by simp only; omega)).trans k2; have j3 := (hb'.cell (p := ⟨w.heap.size + 1, 0, none⟩) (by simp only; omega)).trans k3; have j4 := (hb'.cell (p := ⟨w.heap.size + 1, 1, none⟩) (by simp only; omega)).trans k4; have j5 := (hb'.frozen (p := ⟨w.heap.size + 1, 0, none⟩) (by simp only; omega)).trans k5; have j6 := (hb'.frozen (p := ⟨w.heap.size + 1, 1, none⟩) (by simp only; omega)).trans k6; have hsz := hb'.size; clear hb hb' r hg)
  all_goals go_wp2_with fail
  all_goals
    have bb : ((w2.setCell ⟨w.heap.size + 1, 0, none⟩ (.slice (some ⟨g, 0, none⟩) l l)).setCell ⟨w.heap.size + 1, 1, none⟩ (.int .i64 K)).heap[w.heap.size + 1]? = some (.cells #[.slice (some ⟨g, 0, none⟩) l l, .int .i64 K] 41 (0, 0)) := by
      have e : w2.heap[w.heap.size + 1]? = some (.cells #[.slice none 0 0, .int .i64 0] 41 (0, 0)) := (HBb.out.block _ (by omega)).trans HBL2.out
      simp [World.setCell, Array.getElem?_modify, e]
    have y1 : ((w2.setCell ⟨w.heap.size + 1, 0, none⟩ (.slice (some ⟨g, 0, none⟩) l l)).setCell ⟨w.heap.size + 1, 1, none⟩ (.int .i64 K)).cell? ⟨w.heap.size + 1, 0, none⟩ = some (.slice (some ⟨g, 0, none⟩) l l) := by simp only [World.cell?, bb]; rfl
    have y2 : ((w2.setCell ⟨w.heap.size + 1, 0, none⟩ (.slice (some ⟨g, 0, none⟩) l l)).setCell ⟨w.heap.size + 1, 1, none⟩ (.int .i64 K)).cell? ⟨w.heap.size + 1, 1, none⟩ = some (.int .i64 K) := by simp only [World.cell?, bb]; rfl
    refine bodyPost_ret (v := .agg #[.slice (some ⟨g, 0, none⟩) l l, .int .i64 K]) (by simp [results, Try.results44, go_sem, y1, y2]) rfl ⟨⟨g, rfl, ?_, by omega⟩, ?_⟩
    · exact (HR.out.setOther (a := ⟨w.heap.size + 1, 0, none⟩) (by simp only; omega) _).setOther (a := ⟨w.heap.size + 1, 1, none⟩) (by simp only; omega) _
    · exact ((bl_on HB.out HBb.out).setCell (p := ⟨w.heap.size + 1, 0, none⟩) (by simp only; omega) _).setCell (p := ⟨w.heap.size + 1, 1, none⟩) (by simp only; omega) _

theorem info_row : (Try.prog.info? 41).map (fun i => (i.zero, i.size, i.bytes)) = some (some (.agg #[.slice none 0 0, .int .i64 0]), 2, 32) := by kernel_rfl
/-- The rows that have been copied: the first k of them. -/
def RowsTo (w : World) (R rl N : Nat) (rs : List (List Int × Int)) (k : Nat) : Prop := ∃ f, w.rowIs R 41 (rl * 2) f ∧ ∀ j, j < k → ∃ g l, f (j * 2) = .slice (some ⟨g, 0, none⟩) l l ∧ f (j * 2 + 1) = .int .i64 (rs[j]?.getD ([], 0)).2 ∧ RowI w g l (rs[j]?.getD ([], 0)).1 ∧ (rs[j]?.getD ([], 0)).1.length = l ∧ g ≠ R ∧ N ≤ g
theorem RowsTo.lt {w : World} {R rl N k : Nat} {rs : List (List Int × Int)} (h : RowsTo w R rl N rs k) : R < w.heap.size := by
  obtain ⟨f, h1, _⟩ := h
  exact h1.lt
theorem RowsTo.below {w w' : World} {R rl N k : Nat} {rs : List (List Int × Int)} (h : RowsTo w R rl N rs k) (hb : Below w.heap.size w w') : RowsTo w' R rl N rs k := by
  obtain ⟨f, h1, h2⟩ := h
  refine ⟨f, h1.of_block (hb.block _ h1.lt), fun j hj => ?_⟩
  obtain ⟨g, l, e1, e2, e3, e4⟩ := h2 j hj
  exact ⟨g, l, e1, e2, e3.below hb, e4⟩
theorem RowsTo.snoc {w : World} {R rl N k g l : Nat} {rs : List (List Int × Int)} (h : RowsTo w R rl N rs k) (hr : RowI w g l (rs[k]?.getD ([], 0)).1) (hl : (rs[k]?.getD ([], 0)).1.length = l) (hg : g ≠ R) (hN : N ≤ g) :
    RowsTo ((w.setCell ⟨R, k * 2, none⟩ (.slice (some ⟨g, 0, none⟩) l l)).setCell ⟨R, k * 2 + 1, none⟩ (.int .i64 (rs[k]?.getD ([], 0)).2)) R rl N rs (k + 1) := by
  obtain ⟨f, h1, h2⟩ := h
  refine ⟨_, (h1.set (k * 2) _).set (k * 2 + 1) _, fun j hj => ?_⟩
  have keep : ∀ {g' l' : Nat} {xs : List Int}, RowI w g' l' xs → g' ≠ R → RowI ((w.setCell ⟨R, k * 2, none⟩ (.slice (some ⟨g, 0, none⟩) l l)).setCell ⟨R, k * 2 + 1, none⟩ (.int .i64 (rs[k]?.getD ([], 0)).2)) g' l' xs := fun hh hne => (hh.setOther (a := ⟨R, k * 2, none⟩) hne _).setOther (a := ⟨R, k * 2 + 1, none⟩) hne _
  by_cases e : j = k
  · subst e
    refine ⟨g, l, ?_, ?_, keep hr hg, hl, hg, hN⟩
    · simp
    · simp
  · obtain ⟨g', l', e1, e2, e3, e4, e5, e6⟩ := h2 j (by omega)
    refine ⟨g', l', ?_, ?_, keep e3 e5, e4, e5, e6⟩
    · rw [if_neg (by omega), if_neg (by omega)]; exact e1
    · rw [if_neg (by omega), if_neg (by omega)]; exact e2
theorem rws_of_to {w : World} {R rl N : Nat} {rs : List (List Int × Int)} (h : RowsTo w R rl N rs rl) (hl : rs.length = rl) (hm : rl ≤ 8) (hb : ∀ r ∈ rs, (-1048576 ≤ r.2 ∧ r.2 ≤ 1048576) ∧ r.1.length ≤ 4 ∧ ∀ c ∈ r.1, -1048576 ≤ c ∧ c ≤ 1048576) : Rws w (some ⟨R, 0, none⟩) rl rs := by
  obtain ⟨f, h1, h2⟩ := h
  refine ⟨hl, by omega, .inr ⟨R, 0, rfl, fun j hj => ?_⟩⟩
  obtain ⟨g, l, e1, e2, e3, e4, _⟩ := h2 j hj
  have hj' : j < rs.length := by omega
  have hr := hb _ (mem_getR rs j hj')
  have c1 := h1.cell (i := j * 2) (by omega)
  have c2 := h1.cell (i := j * 2 + 1) (by omega)
  rw [e1] at c1
  rw [e2] at c2
  refine ⟨some ⟨g, 0, none⟩, l, l, by rw [Nat.zero_add]; exact c1, by rw [Nat.zero_add]; exact c2, ?_, ⟨Nat.le_refl _, fun e => by cases e⟩, by omega⟩
  exact ints_of_rowI e3 e4 (by omega) (fun x hx => by have := hr.2.2 x hx; omega)

set_option maxHeartbeats 4000000 in
theorem each_any (ra : Option Addr) (rl rc : Nat) (rs : List (List Int × Int)) (w : World) (hr : Rws w ra rl rs) (hm : rl ≤ 8) (hb4 : ∀ r ∈ rs, r.1.length ≤ 4) :
    Calls Try.prog 43 #[.slice ra rl rc, .func (.func 44) #[] #[]] w fun e w' => (∃ R : Nat, e = .returned (.slice (some ⟨R, 0, none⟩) rl rl) ∧ RowsTo w' R rl w.heap.size rs rl ∧ w.heap.size ≤ R) ∧ Below w.heap.size w w' := by
  have HR := hide hr
  have HL := hide hr.1
  have HB4 := hide hb4
  obtain ⟨i0, hi, hz0, hz1, hz2⟩ := info_parts info_row
  have hmk : ∀ W : World, (Instr.makeSlice 37 (.int .i64 (rl : Int)) (.int .i64 (rl : Int))).run Try.prog W = .ok (.slice (some ⟨W.heap.size, 0, none⟩) rl rl) (W.alloc (.cells (madeCells #[.slice none 0 0, .int .i64 0] (rl * 2)) 41)) := fun W => by
    have := run_make (P := Try.prog) W 37 41 i0 (.agg #[.slice none 0 0, .int .i64 0]) Try.underlying37 hi hz0 .i64 .i64 rl rl (by omega) (by omega) (by rw [hz2]; omega) (by omega)
    simpa [hz1, Value.cells] using this
  have hrow : RowsTo (w.alloc (.cells (madeCells #[.slice none 0 0, .int .i64 0] (rl * 2)) 41)) w.heap.size rl w.heap.size rs 0 := ⟨fun i => (#[Value.slice none 0 0, .int .i64 0])[i % 2]!, ⟨_, World.alloc_heap_new _ _, size_madeCells _ _, fun i hi => by simp [madeCells, hi]⟩, fun j hj => by omega⟩
  have HROW := hide hrow
  have HB0 : Hid (Below w.heap.size w (w.alloc (.cells (madeCells #[.slice none 0 0, .int .i64 0] (rl * 2)) 41))) := bl_new _
  clear hr hb4 hi hz0 hz1 hz2 hrow
  go_enter Try.func43, Try.ntmps43
  go_wp2_with fail
  clear hmk
  go_loopw [13] (fun i wr => ∃ k : Nat, k ≤ rl ∧ i = .int .i64 k ∧ RowsTo wr w.heap.size rl w.heap.size rs k ∧ Below w.heap.size w wr) (fun i _ => rl - (intOf i).toNat)
  case atStart => exact ⟨0, Nat.zero_le _, rfl, HROW.out, HB0.out⟩
  case round =>
    obtain ⟨k, hk, rfl, hT, hB⟩ := hrel
    have HT := hide hT
    have HB := hide hB
    clear HROW HB0
    by_cases hlt : k < rl
    · have hkl : k < rs.length := by rw [HL.out]; exact hlt
      obtain ⟨b, off, rfl, hat⟩ := (HR.out.below HB.out).at (by omega)
      obtain ⟨a, l, c, c1, c2, c3, c4, c5⟩ := hat k hlt
      have z1 := lt_of_cell c1
      have z2 := lt_of_cell c2
      simp only at z1 z2
      have h4 := HB4.out _ (mem_getR rs k hkl)
      have S := fun (W : World) (g : Nat) (h : RowsTo W w.heap.size rl w.heap.size rs k) => h.snoc (g := g) (l := l)
      obtain ⟨q, hq⟩ : ∃ q, q = rs[k]?.getD ([], 0) := ⟨_, rfl⟩
      rw [← hq] at c2 c3 h4
      simp only [← hq] at S
      obtain ⟨cs, K⟩ := q
      simp only at c2 c3 h4 S
      have HS := hide S
      have hll : cs.length = l := c3.1
      have B2 : Below wr.heap.size wr (wr.alloc (.cells #[.slice a l c, .int .i64 K] 41)) := bl_new _
      have HC := hide (fresh1_any a l c cs K (wr.alloc (.cells #[.slice a l c, .int .i64 K] 41)) (c3.below B2) (by omega))
      have HB2 := hide B2
      have hRl := hT.lt
      have HLL := hide hll
      clear hat c3 c4 c5 hq B2 S hT hB hll h4 hkl
      go_wp2_with fail
      refine HC.out.mono ?_
      rintro e w2 ⟨⟨g, rfl, hr2, hg2⟩, hb2⟩
      have T2 := HT.out.below (bl_on HB2.out hb2)
      obtain ⟨f, r1, r2⟩ := T2
      have d1 := r1.cell (i := k * 2) (by omega)
      have d2 := r1.cell (i := k * 2 + 1) (by omega)
      have d3 := r1.frozen (k * 2)
      have d4 := r1.frozen (k * 2 + 1)
      have z3 := r1.lt
      have hsz := HB.out.size
      rw [World.size_alloc] at hg2
      have HT2 := hide (HS.out w2 g ⟨f, r1, r2⟩ hr2 HLL.out (by omega) (by omega))
      have HBb := hide (bl_on HB.out (bl_on HB2.out hb2))
      clear hb2 hr2 r1 r2
      go_wp2_with fail
      go_roundw
      case rel => exact ⟨k + 1, by omega, by go_num, HT2.out, (HBb.out.setCell (p := ⟨w.heap.size, k * 2, none⟩) (Nat.le_refl _) _).setCell (p := ⟨w.heap.size, k * 2 + 1, none⟩) (Nat.le_refl _) _⟩
      case measure => simp [intOf]; omega
    · obtain rfl : k = rl := by omega
      clear hT hB
      go_wp2_with fail
      go_ret
      exact ⟨⟨w.heap.size, rfl, HT.out, Nat.le_refl _⟩, HB.out⟩
end Go.Proofs.Ytindmfpfpooijaa.V
