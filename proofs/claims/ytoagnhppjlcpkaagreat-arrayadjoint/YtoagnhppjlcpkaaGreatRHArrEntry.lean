/-
  Contract: array.entry, of Add, Sub and Mul.
-/
import Derived.Test.YtoagnhppjlcpkaaGreatRGBut
import Derived.Test.YtoagnhppjlcpkaaGreatRHArrTakes
import Derived.Test.YtoagnhppjlcpkaaGreatRGFlip
import Derived.Deep.RegionHeld3
import Derived.Laws.EntriesVeiled
namespace Go.Proofs.YtoagnhppjlcpkaaGreat.V
set_option maxRecDepth 20000
open Go.RowKit

theorem boxed_new {W : World} {B : Nat} {t : TypeId} {v : Value} (h : W.heap.size = B) : Boxed (W.alloc (.cells #[v] t)) B t v := h ▸ Boxed.new W t v
theorem setc_cell {w : World} {p : Addr} {C i : Nat} {v u : Value} (h : w.cell? p = some v) (hne : p.block ≠ C) : (w.setCell ⟨C, i, none⟩ u).cell? p = some v := (World.cell?_setCell_far w ⟨C, i, none⟩ p u (fun e => hne e.symm)).trans h
theorem boxed_drew {W : World} {B : Nat} {t : TypeId} {v : Value} (h : Boxed W B t v) : Boxed W.drew B t v := h

set_option maxRecDepth 100000 in
set_option maxHeartbeats 4000000 in
theorem entry_two (k x : Int) (hk : k = 3 ∨ k = 4 ∨ k = 5) (vd va vl vh vs : Value) (b off cap : Nat) (xa : Option Addr) (n xc : Nat) (ya : Option Addr) (m yc : Nat) (w : World)
    (hx : w.cell? ⟨b, off + 1, none⟩ = some (.slice xa n xc)) (hy : w.cell? ⟨b, off + 3, none⟩ = some (.slice ya m yc)) :
    Calls Tryz.prog 36 #[.agg #[.int .i64 k, vd, va, vl, vh, vs, .int .i64 x], .slice (some ⟨b, off, none⟩) 2 cap] w fun e w' =>
      (∃ B1 B2 B3, e = .returned (.func (Fn.func 76) #[] #[.pointer (some ⟨B1, 0, none⟩), .pointer (some ⟨B2, 0, none⟩), .pointer (some ⟨B3, 0, none⟩)]) ∧
        (Boxed w' B1 98 (.func (Fn.func (twoF k)) #[] #[]) ∧ Boxed w' B2 26 (.slice xa n xc) ∧ Boxed w' B3 26 (.slice ya m yc)) ∧ w.heap.size ≤ B1 ∧ w.heap.size ≤ B2 ∧ w.heap.size ≤ B3) ∧ Below w.heap.size w w' := by
  have HOP := hide (OpAt.new w k vd va vl vh vs x)
  have HB1 := hide ((Below.refl w.heap.size w).alloc (Nat.le_refl _) (.cells #[.int .i64 k, vd, va, vl, vh, vs, .int .i64 x] 24))
  obtain ⟨o0, o1, o2, o3, o4, o5, o6⟩ := HOP.out.cells
  have hx1 := alloc_cell (o := .cells #[.int .i64 k, vd, va, vl, vh, vs, .int .i64 x] 24) hx
  have hy1 := alloc_cell (o := .cells #[.int .i64 k, vd, va, vl, vh, vs, .int .i64 x] 24) hy
  have hbl : b < w.heap.size := lt_of_cell hx
  obtain ⟨q2, q9, q11, q13, q15, q8⟩ : (k == 2) = false ∧ (k == 9) = false ∧ (k == 11) = false ∧ (k == 13) = false ∧ (k == 15) = false ∧ (k == 8) = false := by
    rcases hk with rfl | rfl | rfl <;> decide
  have HK := hide hk
  have hWs : (w.alloc (.cells #[.int .i64 k, vd, va, vl, vh, vs, .int .i64 x] 24)).heap.size = w.heap.size + 1 := by simp
  clear hx hy hk HOP
  go_enter Tryz.func36, Tryz.ntmps36
  go_wp2_with fail
  generalize hW : w.alloc (.cells #[.int .i64 k, vd, va, vl, vh, vs, .int .i64 x] 24) = W at HB1 o0 o1 o2 o3 o4 o5 o6 hx1 hy1 hWs ⊢
  have HWS := hide hWs
  clear hW hWs
  go_cut [8, 9, 10] (fun v1 v2 v3 wc => ∃ B1 B2 B3 : Nat, v1 = .pointer (some ⟨B1, 0, none⟩) ∧ v2 = .pointer (some ⟨B2, 0, none⟩) ∧ v3 = .pointer (some ⟨B3, 0, none⟩) ∧ (Boxed wc B1 98 (.func (Fn.func (twoF k)) #[] #[]) ∧ Boxed wc B2 26 (.slice xa n xc) ∧ Boxed wc B3 26 (.slice ya m yc)) ∧ (w.heap.size ≤ B1 ∧ w.heap.size ≤ B2 ∧ w.heap.size ≤ B3) ∧ Below w.heap.size w wc)
  case first =>
    have HX1 : Hid (Boxed (((W.alloc (.cells #[.nilFunc] 98)).alloc (.cells #[.slice none 0 0] 26)).alloc (.cells #[.slice none 0 0] 26)) W.heap.size 98 .nilFunc) := ((Boxed.new W _ _).alloc _).alloc _
    have HX2 : Hid (Boxed (((W.alloc (.cells #[.func (Fn.func (twoF k)) #[] #[]] 98)).alloc (.cells #[.slice none 0 0] 26)).alloc (.cells #[.slice none 0 0] 26)) (W.heap.size + 1) 26 (.slice none 0 0)) := (boxed_new (by simp)).alloc _
    have HX3 : Hid (Boxed (((W.alloc (.cells #[.func (Fn.func (twoF k)) #[] #[]] 98)).alloc (.cells #[.slice xa n xc] 26)).alloc (.cells #[.slice none 0 0] 26)) (W.heap.size + 1 + 1) 26 (.slice none 0 0)) := boxed_new (by simp)
    have x1 := HX1.out.cell
    have f1 := HX1.out.frozen
    have x2 := HX2.out.cell
    have f2 := HX2.out.frozen
    have x3 := HX3.out.cell
    have f3 := HX3.out.frozen
    have x1' : World.cell? ((((W.alloc (.cells #[.nilFunc] 98)).alloc (.cells #[.slice none 0 0] 26)).alloc (.cells #[.slice none 0 0] 26)).drew) ⟨W.heap.size, 0, none⟩ = _ := x1
    have f1' : World.frozen? ((((W.alloc (.cells #[.nilFunc] 98)).alloc (.cells #[.slice none 0 0] 26)).alloc (.cells #[.slice none 0 0] 26)).drew) ⟨W.heap.size, 0, none⟩ = _ := f1
    go_region_held3 (fun w' => w'.cell? ⟨w.heap.size, 0, none⟩ = some (.int .i64 k) ∧ w'.cell? ⟨b, off + 1, none⟩ = some (.slice xa n xc) ∧ w'.cell? ⟨b, off + 3, none⟩ = some (.slice ya m yc)) (refine ⟨?_, ?_, ?_⟩ <;> with_reducible (repeat (first | assumption | apply drew_cell | apply alloc_cell | (refine setc_cell ?_ ?_; rotate_left; · (simp; omega))))) ((go_at_call 75; refine (ofTwo_any k HK.out _).mono ?_; rintro e w' ⟨rfl, hw'⟩; obtain rfl := hw'.symm))
    all_goals go_wp2
    all_goals go_meet
    all_goals refine ⟨_, _, _, rfl, rfl, rfl, ⟨?_, ?_, ?_⟩, (by have := HWS.out; omega), ?_⟩
    all_goals with_reducible (repeat (first | exact HB1.out | exact boxed_new (by simp) | refine Boxed.alloc ?_ _ | apply boxed_drew | apply bl_drew | apply bl_alloc))
  case rest =>
    obtain ⟨B1, B2, B3, rfl, rfl, rfl, hbx, hsz, hB⟩ := hcut
    have HBX := hide hbx
    have HB := hide hB
    clear hbx hB
    go_wp2
    go_ret
    exact ⟨⟨B1, B2, B3, rfl, HBX.out, hsz⟩, HB.out⟩
end Go.Proofs.YtoagnhppjlcpkaaGreat.V
