/-
  Contracts: cmp.Or, the comparison of changes.
-/
import Derived.Test.YtnncalhpbfmgoaaRmWrong
import Derived.Test.YtnncalhpbfmgoaaCmp
import Derived.Test.YtnncalhpbfmgoaaRmShelf
import Derived.Shelf.SlSortCmp.KitK
import Derived.Deep.RegionHeld3
namespace Go.Proofs.Ytnncalhpbfmgoaa.V
open Go Go.Shelf Go.RowKit Go.Lib Go.Sort Go.Proofs
set_option linter.unusedVariables false

def or2 (x y : Int) : Int := if x ≠ 0 then x else y
set_option maxHeartbeats 1000000 in
theorem or2_any (g cap : Nat) (x y : Int) (w : World) (h0 : w.cell? ⟨g, 0, none⟩ = some (.int .i64 x)) (h1 : w.cell? ⟨g, 1, none⟩ = some (.int .i64 y)) :
    Calls Try.prog 38 #[.slice (some ⟨g, 0, none⟩) 2 cap] w fun e w' => e = .returned (.int .i64 (or2 x y)) ∧ w' = w := by
  have H0 := hide h0
  have H1 := hide h1
  clear h0 h1
  go_enter Try.func38, Try.ntmps38
  go_wp2
  go_loopw [8] (fun i wr => ∃ k : Nat, wr = w ∧ i = .int .i64 k ∧ k ≤ 2 ∧ (0 < k → x = 0) ∧ (1 < k → y = 0)) (fun i _ => 2 - (intOf i).toNat)
  case atStart => exact ⟨0, rfl, rfl, by omega, by omega, by omega⟩
  case round =>
    obtain ⟨k, rfl, rfl, hk, hx, hy⟩ := hrel
    have h0 := H0.out
    have h1 := H1.out
    have z := lt_of_cell h0
    have HX := hide hx
    have HY := hide hy
    clear hx hy
    have hk3 : k = 0 ∨ k = 1 ∨ k = 2 := by omega
    rcases hk3 with rfl | rfl | rfl
    · cases hxb : (x != 0)
      · go_wp2
        go_roundw
        case rel => exact ⟨1, (by first | rfl | trivial), rfl, by omega, fun _ => by simpa using hxb, by omega⟩
        case measure => simp [intOf]
      · go_wp2
        go_ret
        exact ⟨by rw [or2, if_pos (by simpa using hxb)]; rfl, rfl⟩
    · cases hyb : (y != 0)
      · go_wp2
        go_roundw
        case rel => exact ⟨2, (by first | rfl | trivial), rfl, by omega, fun _ => HX.out (by omega), fun _ => by simpa using hyb⟩
        case measure => simp [intOf]
      · go_wp2
        go_ret
        exact ⟨by rw [or2, if_neg (by simpa using HX.out (by omega))]; rfl, rfl⟩
    · go_wp2
      go_ret
      exact ⟨by rw [or2, if_neg (by simpa using HX.out (by omega)), HY.out (by omega)]; rfl, rfl⟩
def cmpC (x y : Int × Int) : Int := or2 (cmpI x.1 y.1) (cmpI x.2 y.2)
set_option maxRecDepth 100000 in
set_option maxHeartbeats 4000000 in
theorem chg1_any (x y : Int × Int) (W : World) : Calls Try.prog 37 #[.agg #[.int .i64 x.1, .int .i64 x.2], .agg #[.int .i64 y.1, .int .i64 y.2]] W fun e w' => e = .returned (.int .i64 (cmpC x y)) ∧ ∃ q os', w' = grow (W.drewN q) os' := by
  unfold cmpC
  have H1 := hide (fun W' => cmp_any x.1 y.1 W')
  have H2 := hide (fun W' => cmp_any x.2 y.2 W')
  generalize cmpI x.1 y.1 = p at H1 ⊢
  generalize cmpI x.2 y.2 = q at H2 ⊢
  have H3 := hide (fun (g cap : Nat) (W' : World) h0 h1 => or2_any g cap p q W' h0 h1)
  obtain ⟨V, hV⟩ : ∃ V, V = (W.alloc (.cells #[.int .i64 x.1, .int .i64 x.2] 43)).alloc (.cells #[.int .i64 y.1, .int .i64 y.2] 43) := ⟨_, rfl⟩
  have c0 : V.cell? ⟨W.heap.size, 0, none⟩ = some (.int .i64 x.1) := by rw [hV]; simp
  have c1 : V.cell? ⟨W.heap.size, 1, none⟩ = some (.int .i64 x.2) := by rw [hV]; simp
  have c2 : V.cell? ⟨W.heap.size + 1, 0, none⟩ = some (.int .i64 y.1) := by rw [hV]; simp
  have c3 : V.cell? ⟨W.heap.size + 1, 1, none⟩ = some (.int .i64 y.2) := by rw [hV]; simp
  have HV := hide hV
  clear hV
  go_enter Try.func37, Try.ntmps37
  go_wp2_with fail
  rw [← HV.out]
  go_region_held3 (fun w' => w'.cell? ⟨W.heap.size, 0, none⟩ = some (.int .i64 x.1) ∧ w'.cell? ⟨W.heap.size, 1, none⟩ = some (.int .i64 x.2) ∧ w'.cell? ⟨W.heap.size + 1, 0, none⟩ = some (.int .i64 y.1) ∧ w'.cell? ⟨W.heap.size + 1, 1, none⟩ = some (.int .i64 y.2)) (refine ⟨?_, ?_, ?_, ?_⟩ <;> with_reducible (repeat (first | assumption | apply drew_cell | apply alloc_cell))) ((first
    | (go_at_call_of 39 (Value.int IntKind.i64 x.1); refine (H1.out _).mono ?_; rintro e w1 ⟨rfl, hw⟩; obtain rfl := hw.symm)
    | (go_at_call_of 39 (Value.int IntKind.i64 x.2); refine (H2.out _).mono ?_; rintro e w1 ⟨rfl, hw⟩; obtain rfl := hw.symm)
    | (go_at_call 38; refine (H3.out _ _ _ (by simp) (by simp)).mono ?_; rintro e w1 ⟨rfl, hw⟩; obtain rfl := hw.symm)))
  go_wp2
  go_ret
  refine ⟨rfl, 1, #[.cells #[.int .i64 x.1, .int .i64 x.2] 43, .cells #[.int .i64 y.1, .int .i64 y.2] 43, .cells #[.int .i64 p, .int .i64 q] 3], ?_⟩
  rw [HV.out, alloc_eq_grow, alloc_eq_grow, alloc_eq_grow, grow_grow, grow_grow]
  rfl
end Go.Proofs.Ytnncalhpbfmgoaa.V
