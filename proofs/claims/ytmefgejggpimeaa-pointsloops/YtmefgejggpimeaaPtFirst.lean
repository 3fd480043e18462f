/-
  Contract: points.first (a row over the first numbers alone, multiplied).
-/
import Derived.Test.YtmefgejggpimeaaPtLoop1
namespace Go.Proofs.Ytmefgejggpimeaa.V
open Go.RowKit
set_option linter.unusedVariables false

theorem rowIs_setFirst {w : World} {g k j : Nat} {ys : List Int} (hj : j < k) (h : w.rowIs g 3 k (fun i => if i < j then .int .i64 (ys[i]?.getD 0) else .int .i64 0)) : (w.setCell ⟨g, j, none⟩ (.int .i64 (ys[j]?.getD 0))).rowIs g 3 k (fun i => if i < j + 1 then .int .i64 (ys[i]?.getD 0) else .int .i64 0) := by
  have h2 := h.set j (.int .i64 (ys[j]?.getD 0))
  have e : (fun i => if i = j then Value.int .i64 (ys[j]?.getD 0) else if i < j then .int .i64 (ys[i]?.getD 0) else .int .i64 0) = fun i => if i < j + 1 then .int .i64 (ys[i]?.getD 0) else .int .i64 0 := by
    funext i
    by_cases h1 : i = j
    · subst h1; simp
    · by_cases h3 : i < j
      · rw [if_neg h1, if_pos h3, if_pos (by omega)]
      · rw [if_neg h1, if_neg h3, if_neg (by omega)]
  rw [← e]
  exact h2
theorem firstV_at (cs : List Int) (k : Nat) (m : Int) (i : Nat) (hi : i < k) (hk : k ≤ cs.length) : (firstV cs k m)[i]?.getD 0 = m * cs[i]?.getD 0 := by
  have : i < cs.length := by omega
  simp [firstV, hi, this]
set_option maxHeartbeats 4000000 in
theorem first_any (a : Option Addr) (l c : Nat) (cs : List Int) (K : Int) (k : Nat) (m : Int) (w : World) (h : Ints w a l cs) (hl4 : l ≤ 4) (hk : k < l) (hm : m = 1 ∨ m = -1)
    (hK : -1048576 ≤ K ∧ K ≤ 1048576) (hc : ∀ c ∈ cs, -1048576 ≤ c ∧ c ≤ 1048576) :
    Calls Try.prog 49 #[.agg #[.slice a l c, .int .i64 K], .int .i64 k, .int .i64 m] w fun e w' => (∃ g : Nat, e = .returned (.agg #[.slice (some ⟨g, 0, none⟩) k k, .int .i64 (m * K)]) ∧ RowI w' g k (firstV cs k m) ∧ w.heap.size ≤ g) ∧ Below w.heap.size w w' := by
  have B1 : Below w.heap.size w ((w.alloc (.cells #[.slice a l c, .int .i64 K] 56)).alloc (.cells #[.slice none 0 0, .int .i64 0] 56)) := bl_on (bl_new _) (bl_new _)
  have HB := hide B1
  have H := hide (h.below B1)
  have b1 : ((w.alloc (.cells #[.slice a l c, .int .i64 K] 56)).alloc (.cells #[.slice none 0 0, .int .i64 0] 56)).heap[w.heap.size]? = some (.cells #[.slice a l c, .int .i64 K] 56 (0, 0)) := (Below.heap_alloc _ _ _ (by simp)).trans (World.alloc_heap_new _ _)
  have b2 : ((w.alloc (.cells #[.slice a l c, .int .i64 K] 56)).alloc (.cells #[.slice none 0 0, .int .i64 0] 56)).heap[w.heap.size + 1]? = some (.cells #[.slice none 0 0, .int .i64 0] 56 (0, 0)) := by have := World.alloc_heap_new (w.alloc (.cells #[.slice a l c, .int .i64 K] 56)) (.cells #[.slice none 0 0, .int .i64 0] 56); simpa using this
  obtain ⟨W1, hW1⟩ : ∃ W1, W1 = (w.alloc (.cells #[.slice a l c, .int .i64 K] 56)).alloc (.cells #[.slice none 0 0, .int .i64 0] 56) := ⟨_, rfl⟩
  rw [← hW1] at HB H b1 b2
  have hz : W1.heap.size = w.heap.size + 2 := by rw [hW1]; simp
  have HW1 := hide hW1
  have k1 : W1.cell? ⟨w.heap.size, 0, none⟩ = some (.slice a l c) := by simp [World.cell?, b1]
  have k2 : W1.cell? ⟨w.heap.size, 1, none⟩ = some (.int .i64 K) := by simp [World.cell?, b1]
  have HBL1 := hide b1
  have HBL2 := hide b2
  have HL := hide h.1
  have HC := hide hc
  have mK : -1048576 ≤ m * K ∧ m * K ≤ 1048576 := by rcases hm with rfl | rfl <;> omega
  have wK : IntKind.i64.wrap (m * K) = m * K := wrap_in _ (by omega) (by omega)
  have HMK := hide mK
  have HM := hide hm
  have hmk := run_make_row' (P := Try.prog) 22 3 (.int .i64 0) 8 Try.underlying22 info_int rfl .i64 .i64 k (by omega) (by omega)
  have zN : w.heap.size < W1.heap.size := by omega
  have HROW : Hid (∀ i, i < k → (firstV cs k m)[i]?.getD 0 = m * cs[i]?.getD 0) := fun i hi => firstV_at cs k m i hi (by rw [h.1]; omega)
  clear h B1 b1 b2 hW1 hc hK hm mK
  go_enter Try.func49, Try.ntmps49
  go_wp2_with fail
  rw [← HW1.out]
  go_region
  · have hbw : Below W1.heap.size W1 (((W1.alloc (.cells (madeCells #[.int .i64 0] k) 3)).alloc (.cells #[.slice (some ⟨w.heap.size + 2, 0, none⟩) k k, .int .i64 (m * K)] 56)).drew) := ((Below.refl _ _).alloc (Nat.le_refl _) _ |>.alloc (by simp) _).drew
    have rG0 : (((W1.alloc (.cells (madeCells #[.int .i64 0] k) 3)).alloc (.cells #[.slice (some ⟨w.heap.size + 2, 0, none⟩) k k, .int .i64 (m * K)] 56)).drew).rowIs (w.heap.size + 2) 3 k (fun i => if i < 0 then .int .i64 ((firstV cs k m)[i]?.getD 0) else .int .i64 0) := by
      have h0 := World.rowIs_made W1 (.int .i64 0) k 3
      rw [hz] at h0
      simp only [Nat.not_lt_zero, if_false]
      exact (World.rowIs.alloc h0 _)
    have rO : (((W1.alloc (.cells (madeCells #[.int .i64 0] k) 3)).alloc (.cells #[.slice (some ⟨w.heap.size + 2, 0, none⟩) k k, .int .i64 (m * K)] 56)).drew).heap[w.heap.size + 2 + 1]? = some (.cells #[.slice (some ⟨w.heap.size + 2, 0, none⟩) k k, .int .i64 (m * K)] 56 (0, 0)) := by
      have h0 := World.alloc_heap_new (W1.alloc (.cells (madeCells #[.int .i64 0] k) 3)) (.cells #[.slice (some ⟨w.heap.size + 2, 0, none⟩) k k, .int .i64 (m * K)] 56)
      rw [World.size_alloc, hz] at h0
      exact h0
    have hz2 : (((W1.alloc (.cells (madeCells #[.int .i64 0] k) 3)).alloc (.cells #[.slice (some ⟨w.heap.size + 2, 0, none⟩) k k, .int .i64 (m * K)] 56)).drew).heap.size = w.heap.size + 4 := by show (World.alloc _ _).heap.size = _; simp; omega
    obtain ⟨W2, hW2⟩ : ∃ W2, W2 = ((W1.alloc (.cells (madeCells #[.int .i64 0] k) 3)).alloc (.cells #[.slice (some ⟨w.heap.size + 2, 0, none⟩) k k, .int .i64 (m * K)] 56)).drew := ⟨_, rfl⟩
    rw [← hW2] at hbw rG0 rO hz2 ⊢
    clear hW2
    have HW2 := hide (H.out.below hbw)
    have HBw := hide (bl_on HB.out hbw)
    have n0 : W2.heap[w.heap.size]? = some (.cells #[.slice a l c, .int .i64 K] 56 (0, 0)) := (hbw.block _ (by omega)).trans HBL1.out
    have n1 : W2.heap[w.heap.size + 1]? = some (.cells #[.slice none 0 0, .int .i64 0] 56 (0, 0)) := (hbw.block _ (by omega)).trans HBL2.out
    have HG0 := hide rG0
    have HN := hide (And.intro n0 (And.intro n1 rO))
    have hall : ∀ (W : World), (∀ b, b ≠ w.heap.size + 2 → W.heap[b]? = W2.heap[b]?) → W.cell? ⟨w.heap.size, 0, none⟩ = some (.slice a l c) ∧ W.cell? ⟨w.heap.size + 2 + 1, 0, none⟩ = some (.slice (some ⟨w.heap.size + 2, 0, none⟩) k k) ∧ W.cell? ⟨w.heap.size + 2 + 1, 1, none⟩ = some (.int .i64 (m * K)) ∧ W.heap[w.heap.size + 1]? = some (.cells #[.slice none 0 0, .int .i64 0] 56 (0, 0)) ∧ w.heap.size < W.heap.size ∧ w.heap.size + 2 + 1 < W.heap.size ∧ w.heap.size + 1 < W.heap.size := fun W hh => by
      have e0 := (hh w.heap.size (by omega)).trans n0
      have e1 := (hh (w.heap.size + 1) (by omega)).trans n1
      have e2 := (hh (w.heap.size + 2 + 1) (by omega)).trans rO
      exact ⟨by simp [World.cell?, e0], by simp [World.cell?, e2], by simp [World.cell?, e2], e1, (Array.getElem?_eq_some_iff.1 e0).1, (Array.getElem?_eq_some_iff.1 e2).1, (Array.getElem?_eq_some_iff.1 e1).1⟩
    have HALL := hide hall
    clear hbw rG0 rO n0 n1 hall k1 k2 hmk wK HBL1 HBL2 HW1
    go_wp2_with fail
    go_loopw [17] (fun i wr => ∃ j : Nat, j ≤ k ∧ i = .int .i64 j ∧ wr.rowIs (w.heap.size + 2) 3 k (fun i => if i < j then .int .i64 ((firstV cs k m)[i]?.getD 0) else .int .i64 0) ∧ (∀ b, b ≠ w.heap.size + 2 → wr.heap[b]? = W2.heap[b]?) ∧ Below w.heap.size w wr) (fun i _ => k - (intOf i).toNat)
    case atStart => exact ⟨0, Nat.zero_le _, rfl, HG0.out, fun _ _ => rfl, HBw.out⟩
    case round =>
      obtain ⟨j, hj, rfl, hrow, hoth, hbel⟩ := hrel
      obtain ⟨q0, q1, q2, q3, q4, q5, q6⟩ := HALL.out wr hoth
      have HO := hide hoth
      have HR := hide hrow
      have HBE := hide hbel
      by_cases hlt : j < k
      · have hjl : j < l := by omega
        have hjc : j < cs.length := by rw [HL.out]; exact hjl
        have hsm : ∀ b off, a = some ⟨b, off, none⟩ → b ≠ w.heap.size + 2 := fun b off e eb => by
          obtain ⟨b', off', e', hb', _⟩ := H.out.at (show 0 < l by omega)
          rw [e] at e'
          cases e'
          omega
        obtain ⟨b, off, rfl, hb, hcc⟩ := HW2.out.at (by omega)
        have hbG := hsm b off rfl
        have hck : wr.cell? ⟨b, off + j, none⟩ = some (.int .i64 (cs[j]?.getD 0)) := (World.cell?_of_block (w := W2) (hoth b hbG)).trans (hcc j hjl)
        have zb := lt_of_cell hck
        simp only at zb
        have d1 := hrow.cell (i := j) hlt
        rw [if_neg (by omega)] at d1
        have d2 := hrow.frozen j
        have zG := hrow.lt
        have hcb := HC.out _ (mem_getD cs j hjc)
        have HS := hide (rowIs_setFirst hlt hrow)
        have HV := hide (HROW.out j hlt)
        obtain ⟨x, hx⟩ : ∃ x, x = cs[j]?.getD 0 := ⟨_, rfl⟩
        rw [← hx] at hck hcb HV
        have mx : -1048576 ≤ m * x ∧ m * x ≤ 1048576 := by rcases HM.out with hm | hm <;> rw [hm] <;> omega
        have wx : IntKind.i64.wrap (m * x) = m * x := wrap_in _ (by omega) (by omega)
        clear hcc hsm hx hoth hrow hbel hcb mx q3
        go_wp2_with fail
        go_region
        go_wp2_with fail
        go_roundw
        case rel => exact ⟨j + 1, by omega, by go_num, by rw [← HV.out]; exact HS.out, fun b hb => (Below.heap_setCell _ _ _ _ hb).trans (HO.out b hb), (HBE.out.setCell (p := ⟨w.heap.size + 2, j, none⟩) (by simp only; omega) _).drew⟩
        case measure => simp [intOf]; omega
      · obtain rfl : j = k := by omega
        have p0 : wr.cell? ⟨w.heap.size + 1, 0, none⟩ = some (.slice none 0 0) := by simp [World.cell?, q3]
        have p1 : wr.cell? ⟨w.heap.size + 1, 1, none⟩ = some (.int .i64 0) := by simp [World.cell?, q3]
        have p2 : wr.frozen? ⟨w.heap.size + 1, 0, none⟩ = false := by simp [World.frozen?, q3]
        have p3 : wr.frozen? ⟨w.heap.size + 1, 1, none⟩ = false := by simp [World.frozen?, q3]
        have HQ3 := hide q3
        clear hoth hrow hbel q3
        go_wp2_with fail
        have bb : ((wr.setCell ⟨w.heap.size + 1, 0, none⟩ (.slice (some ⟨w.heap.size + 2, 0, none⟩) j j)).setCell ⟨w.heap.size + 1, 1, none⟩ (.int .i64 (m * K))).heap[w.heap.size + 1]? = some (.cells #[.slice (some ⟨w.heap.size + 2, 0, none⟩) j j, .int .i64 (m * K)] 56 (0, 0)) := by
          simp [World.setCell, Array.getElem?_modify, HQ3.out]
        have y1 : ((wr.setCell ⟨w.heap.size + 1, 0, none⟩ (.slice (some ⟨w.heap.size + 2, 0, none⟩) j j)).setCell ⟨w.heap.size + 1, 1, none⟩ (.int .i64 (m * K))).cell? ⟨w.heap.size + 1, 0, none⟩ = some (.slice (some ⟨w.heap.size + 2, 0, none⟩) j j) := by simp only [World.cell?, bb]; rfl
        have y2 : ((wr.setCell ⟨w.heap.size + 1, 0, none⟩ (.slice (some ⟨w.heap.size + 2, 0, none⟩) j j)).setCell ⟨w.heap.size + 1, 1, none⟩ (.int .i64 (m * K))).cell? ⟨w.heap.size + 1, 1, none⟩ = some (.int .i64 (m * K)) := by simp only [World.cell?, bb]; rfl
        have hfin : RowI wr (w.heap.size + 2) j (firstV cs j m) := by
          obtain ⟨cur, u1, u2, u3⟩ := HR.out
          exact ⟨cur, u1, u2, fun i hi => by rw [u3 i hi]; simp only [if_pos hi]⟩
        refine bodyPost_ret (v := .agg #[.slice (some ⟨w.heap.size + 2, 0, none⟩) j j, .int .i64 (m * K)]) (by simp [results, Try.results49, go_sem, y1, y2]) rfl ⟨⟨_, rfl, ?_, by omega⟩, ?_⟩
        · exact (hfin.setOther (a := ⟨w.heap.size + 1, 0, none⟩) (by simp only; omega) _).setOther (a := ⟨w.heap.size + 1, 1, none⟩) (by simp only; omega) _
        · exact (HBE.out.setCell (p := ⟨w.heap.size + 1, 0, none⟩) (by simp only; omega) _).setCell (p := ⟨w.heap.size + 1, 1, none⟩) (by simp only; omega) _
  · have hbw : Below W1.heap.size W1 (((W1.alloc (.cells #[.slice (some ⟨w.heap.size + 2 + 1, 0, none⟩) k k, .int .i64 (m * K)] 56)).alloc (.cells (madeCells #[.int .i64 0] k) 3)).drew) := ((Below.refl _ _).alloc (Nat.le_refl _) _ |>.alloc (by simp) _).drew
    have rG0 : (((W1.alloc (.cells #[.slice (some ⟨w.heap.size + 2 + 1, 0, none⟩) k k, .int .i64 (m * K)] 56)).alloc (.cells (madeCells #[.int .i64 0] k) 3)).drew).rowIs (w.heap.size + 2 + 1) 3 k (fun i => if i < 0 then .int .i64 ((firstV cs k m)[i]?.getD 0) else .int .i64 0) := by
      have h0 := World.rowIs_made (W1.alloc (.cells #[.slice (some ⟨w.heap.size + 2 + 1, 0, none⟩) k k, .int .i64 (m * K)] 56)) (.int .i64 0) k 3
      rw [World.size_alloc, hz] at h0
      simp only [Nat.not_lt_zero, if_false]
      exact h0
    have rO : (((W1.alloc (.cells #[.slice (some ⟨w.heap.size + 2 + 1, 0, none⟩) k k, .int .i64 (m * K)] 56)).alloc (.cells (madeCells #[.int .i64 0] k) 3)).drew).heap[w.heap.size + 2]? = some (.cells #[.slice (some ⟨w.heap.size + 2 + 1, 0, none⟩) k k, .int .i64 (m * K)] 56 (0, 0)) := by
      have h0 := World.alloc_heap_new W1 (.cells #[.slice (some ⟨w.heap.size + 2 + 1, 0, none⟩) k k, .int .i64 (m * K)] 56)
      rw [hz] at h0
      exact (Below.heap_alloc _ _ _ (by simp; omega)).trans h0
    have hz2 : (((W1.alloc (.cells #[.slice (some ⟨w.heap.size + 2 + 1, 0, none⟩) k k, .int .i64 (m * K)] 56)).alloc (.cells (madeCells #[.int .i64 0] k) 3)).drew).heap.size = w.heap.size + 4 := by show (World.alloc _ _).heap.size = _; simp; omega
    obtain ⟨W2, hW2⟩ : ∃ W2, W2 = ((W1.alloc (.cells #[.slice (some ⟨w.heap.size + 2 + 1, 0, none⟩) k k, .int .i64 (m * K)] 56)).alloc (.cells (madeCells #[.int .i64 0] k) 3)).drew := ⟨_, rfl⟩
    rw [← hW2] at hbw rG0 rO hz2 ⊢
    clear hW2
    have HW2 := hide (H.out.below hbw)
    have HBw := hide (bl_on HB.out hbw)
    have n0 : W2.heap[w.heap.size]? = some (.cells #[.slice a l c, .int .i64 K] 56 (0, 0)) := (hbw.block _ (by omega)).trans HBL1.out
    have n1 : W2.heap[w.heap.size + 1]? = some (.cells #[.slice none 0 0, .int .i64 0] 56 (0, 0)) := (hbw.block _ (by omega)).trans HBL2.out
    have HG0 := hide rG0
    have HN := hide (And.intro n0 (And.intro n1 rO))
    have hall : ∀ (W : World), (∀ b, b ≠ w.heap.size + 2 + 1 → W.heap[b]? = W2.heap[b]?) → W.cell? ⟨w.heap.size, 0, none⟩ = some (.slice a l c) ∧ W.cell? ⟨w.heap.size + 2, 0, none⟩ = some (.slice (some ⟨w.heap.size + 2 + 1, 0, none⟩) k k) ∧ W.cell? ⟨w.heap.size + 2, 1, none⟩ = some (.int .i64 (m * K)) ∧ W.heap[w.heap.size + 1]? = some (.cells #[.slice none 0 0, .int .i64 0] 56 (0, 0)) ∧ w.heap.size < W.heap.size ∧ w.heap.size + 2 < W.heap.size ∧ w.heap.size + 1 < W.heap.size := fun W hh => by
      have e0 := (hh w.heap.size (by omega)).trans n0
      have e1 := (hh (w.heap.size + 1) (by omega)).trans n1
      have e2 := (hh (w.heap.size + 2) (by omega)).trans rO
      exact ⟨by simp [World.cell?, e0], by simp [World.cell?, e2], by simp [World.cell?, e2], e1, (Array.getElem?_eq_some_iff.1 e0).1, (Array.getElem?_eq_some_iff.1 e2).1, (Array.getElem?_eq_some_iff.1 e1).1⟩
    have HALL := hide hall
    clear hbw rG0 rO n0 n1 hall k1 k2 hmk wK HBL1 HBL2 HW1
    go_wp2_with fail
    go_loopw [17] (fun i wr => ∃ j : Nat, j ≤ k ∧ i = .int .i64 j ∧ wr.rowIs (w.heap.size + 2 + 1) 3 k (fun i => if i < j then .int .i64 ((firstV cs k m)[i]?.getD 0) else .int .i64 0) ∧ (∀ b, b ≠ w.heap.size + 2 + 1 → wr.heap[b]? = W2.heap[b]?) ∧ Below w.heap.size w wr) (fun i _ => k - (intOf i).toNat)
    case atStart => exact ⟨0, Nat.zero_le _, rfl, HG0.out, fun _ _ => rfl, HBw.out⟩
    case round =>
      obtain ⟨j, hj, rfl, hrow, hoth, hbel⟩ := hrel
      obtain ⟨q0, q1, q2, q3, q4, q5, q6⟩ := HALL.out wr hoth
      have HO := hide hoth
      have HR := hide hrow
      have HBE := hide hbel
      by_cases hlt : j < k
      · have hjl : j < l := by omega
        have hjc : j < cs.length := by rw [HL.out]; exact hjl
        have hsm : ∀ b off, a = some ⟨b, off, none⟩ → b ≠ w.heap.size + 2 + 1 := fun b off e eb => by
          obtain ⟨b', off', e', hb', _⟩ := H.out.at (show 0 < l by omega)
          rw [e] at e'
          cases e'
          omega
        obtain ⟨b, off, rfl, hb, hcc⟩ := HW2.out.at (by omega)
        have hbG := hsm b off rfl
        have hck : wr.cell? ⟨b, off + j, none⟩ = some (.int .i64 (cs[j]?.getD 0)) := (World.cell?_of_block (w := W2) (hoth b hbG)).trans (hcc j hjl)
        have zb := lt_of_cell hck
        simp only at zb
        have d1 := hrow.cell (i := j) hlt
        rw [if_neg (by omega)] at d1
        have d2 := hrow.frozen j
        have zG := hrow.lt
        have hcb := HC.out _ (mem_getD cs j hjc)
        have HS := hide (rowIs_setFirst hlt hrow)
        have HV := hide (HROW.out j hlt)
        obtain ⟨x, hx⟩ : ∃ x, x = cs[j]?.getD 0 := ⟨_, rfl⟩
        rw [← hx] at hck hcb HV
        have mx : -1048576 ≤ m * x ∧ m * x ≤ 1048576 := by rcases HM.out with hm | hm <;> rw [hm] <;> omega
        have wx : IntKind.i64.wrap (m * x) = m * x := wrap_in _ (by omega) (by omega)
        clear hcc hsm hx hoth hrow hbel hcb mx q3
        go_wp2_with fail
        go_region
        go_wp2_with fail
        go_roundw
        case rel => exact ⟨j + 1, by omega, by go_num, by rw [← HV.out]; exact HS.out, fun b hb => (Below.heap_setCell _ _ _ _ hb).trans (HO.out b hb), (HBE.out.setCell (p := ⟨w.heap.size + 2 + 1, j, none⟩) (by simp only; omega) _).drew⟩
        case measure => simp [intOf]; omega
      · obtain rfl : j = k := by omega
        have p0 : wr.cell? ⟨w.heap.size + 1, 0, none⟩ = some (.slice none 0 0) := by simp [World.cell?, q3]
        have p1 : wr.cell? ⟨w.heap.size + 1, 1, none⟩ = some (.int .i64 0) := by simp [World.cell?, q3]
        have p2 : wr.frozen? ⟨w.heap.size + 1, 0, none⟩ = false := by simp [World.frozen?, q3]
        have p3 : wr.frozen? ⟨w.heap.size + 1, 1, none⟩ = false := by simp [World.frozen?, q3]
        have HQ3 := hide q3
        clear hoth hrow hbel q3
        go_wp2_with fail
        have bb : ((wr.setCell ⟨w.heap.size + 1, 0, none⟩ (.slice (some ⟨w.heap.size + 2 + 1, 0, none⟩) j j)).setCell ⟨w.heap.size + 1, 1, none⟩ (.int .i64 (m * K))).heap[w.heap.size + 1]? = some (.cells #[.slice (some ⟨w.heap.size + 2 + 1, 0, none⟩) j j, .int .i64 (m * K)] 56 (0, 0)) := by
          simp [World.setCell, Array.getElem?_modify, HQ3.out]
        have y1 : ((wr.setCell ⟨w.heap.size + 1, 0, none⟩ (.slice (some ⟨w.heap.size + 2 + 1, 0, none⟩) j j)).setCell ⟨w.heap.size + 1, 1, none⟩ (.int .i64 (m * K))).cell? ⟨w.heap.size + 1, 0, none⟩ = some (.slice (some ⟨w.heap.size + 2 + 1, 0, none⟩) j j) := by simp only [World.cell?, bb]; rfl
        have y2 : ((wr.setCell ⟨w.heap.size + 1, 0, none⟩ (.slice (some ⟨w.heap.size + 2 + 1, 0, none⟩) j j)).setCell ⟨w.heap.size + 1, 1, none⟩ (.int .i64 (m * K))).cell? ⟨w.heap.size + 1, 1, none⟩ = some (.int .i64 (m * K)) := by simp only [World.cell?, bb]; rfl
        have hfin : RowI wr (w.heap.size + 2 + 1) j (firstV cs j m) := by
          obtain ⟨cur, u1, u2, u3⟩ := HR.out
          exact ⟨cur, u1, u2, fun i hi => by rw [u3 i hi]; simp only [if_pos hi]⟩
        refine bodyPost_ret (v := .agg #[.slice (some ⟨w.heap.size + 2 + 1, 0, none⟩) j j, .int .i64 (m * K)]) (by simp [results, Try.results49, go_sem, y1, y2]) rfl ⟨⟨_, rfl, ?_, by omega⟩, ?_⟩
        · exact (hfin.setOther (a := ⟨w.heap.size + 1, 0, none⟩) (by simp only; omega) _).setOther (a := ⟨w.heap.size + 1, 1, none⟩) (by simp only; omega) _
        · exact (HBE.out.setCell (p := ⟨w.heap.size + 1, 0, none⟩) (by simp only; omega) _).setCell (p := ⟨w.heap.size + 1, 1, none⟩) (by simp only; omega) _
end Go.Proofs.Ytmefgejggpimeaa.V
