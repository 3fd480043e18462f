/-
  order.byTime, told as the library's sort wants it; slices.SortStableFunc at spots.
-/
import Derived.Test.YtoidgdbgpbcebaaK27
import Derived.Test.YtoidgdbgpbcebaaK25
import Derived.Test.YtoidgdbgpbcebaaK30
namespace Go.Proofs.Ytoidgdbgpbcebaa.V
open Go Go.Shelf Go.RowKit Go.Lib Go.Sort Go.Proofs Go.Proofs.Ytoidgdbgpbcebaa.S
set_option linter.unusedVariables false

set_option maxRecDepth 100000 in
set_option maxHeartbeats 4000000 in
theorem byTime_grow (p q : TW) (w : World) : Calls Try.prog 31 #[p.v, q.v] w fun e w' => e = .returned (.int .i64 (cmpT p.tm q.tm)) ∧ ∃ n os, w' = grow (w.drewN n) os := by
  have P0 := (p.new w).below (bl_new (.cells q.cs 59))
  have P1 := q.new (w.alloc (.cells p.cs 59))
  rw [World.size_alloc] at P1
  obtain ⟨W, hW⟩ : ∃ W, W = (w.alloc (.cells p.cs 59)).alloc (.cells q.cs 59) := ⟨_, rfl⟩
  rw [← hW] at P0 P1
  have tmc : ∀ (u : TW) (b : Nat) (V : World), u.blk V b → ∀ k, k < 8 → V.cell? ⟨b, 2 + k, none⟩ = some (.int .i64 (u.tm k)) := fun u b V h k hk => by
    have : k = 0 ∨ k = 1 ∨ k = 2 ∨ k = 3 ∨ k = 4 ∨ k = 5 ∨ k = 6 ∨ k = 7 := by omega
    obtain ⟨t0, t1, t2, t3, t4, t5, t6, t7, t8, t9, t10, t11, t12, t13, t14⟩ := h.cells
    rcases this with rfl | rfl | rfl | rfl | rfl | rfl | rfl | rfl
    · exact t2
    · exact t3
    · exact t4
    · exact t5
    · exact t6
    · exact t7
    · exact t8
    · exact t9
  have hc : ∀ n os, Calls Try.prog 62 #[.slice (some ⟨w.heap.size, 2, none⟩) 8 8, .slice (some ⟨w.heap.size + 1, 2, none⟩) 8 8] (grow (W.drewN n) os) fun e w' => e = .returned (.int .i64 (cmpT p.tm q.tm)) ∧ ∃ q os', w' = grow ((grow (W.drewN n) os).drewN q) os' := fun n os => by
    refine (compare8 w.heap.size 2 (w.heap.size + 1) 2 p.tm q.tm _ (tmc p _ _ (P0.below (bl_grow W n os))) (tmc q _ _ (P1.below (bl_grow W n os)))).mono ?_
    rintro e w' ⟨rfl, rfl⟩
    exact ⟨rfl, 0, #[], by rw [grow_empty]; rfl⟩
  have z0 := P0.lt
  have z1 := P1.lt
  have HW := hide hW
  clear P0 P1 hW tmc
  have mixed : Try.prog.follows .mixedOrders = true := by kernel_rfl
  have eC : ∀ args w, (callFunc 62 args).run Try.prog w = .ok (.enter 62 args) w := enters_of Try.func62 (by kernel_rfl) rfl
  generalize cmpT p.tm q.tm = K at hc ⊢
  unfold TW.cs at HW
  unfold TW.v TW.cs
  go_enter Try.func31, Try.ntmps31
  go_wp2_with fail
  rw [← HW.out]
  go_quiet_grown (first | (go_at_fn 62; refine Calls.grown_of (hc _ _)))
  clear hc
  go_wp2_with fail
  go_ret
  refine ⟨rfl, nq, #[.cells p.cs 59, .cells q.cs 59] ++ osq, ?_⟩
  rw [HW.out, alloc_eq_grow, alloc_eq_grow, grow_grow]
  exact grow_grow (w.drewN nq) _ _
end Go.Proofs.Ytoidgdbgpbcebaa.V
