/-
  Contract: adjointlaw8.choose.
-/
import Derived.Test.YtdfpgpekilhelaaRpLess
import Derived.Test.YtdfpgpekilhelaaRpBin
import Derived.Deep.RegionLaw
import Derived.Deep.AppendLies
namespace Go.Proofs.Ytdfpgpekilhelaa.V
open Go.RowKit
set_option linter.unusedVariables false

/-- A number as it wraps round. -/
def wrp (x : Nat) : Int := IntKind.i64.wrap (x : Int)
theorem wrp_add (x y : Nat) : IntKind.i64.wrap (wrp x + wrp y) = wrp (x + y) := by
  unfold wrp
  rw [IntKind.wrap_i64, IntKind.wrap_i64, IntKind.wrap_i64, IntKind.wrap_i64]
  omega
theorem wrp_small {x : Nat} (h : x ≤ 9223372036854775807) : wrp x = x := by
  unfold wrp
  rw [IntKind.wrap_i64]
  omega
theorem wrp_bd (x : Nat) : -9223372036854775808 ≤ wrp x ∧ wrp x ≤ 9223372036854775807 := by
  unfold wrp
  rw [IntKind.wrap_i64]
  omega
/-- The first m of the binomials over i. -/
def bins (i m : Nat) : List Value := (List.range m).map fun j => .int .i64 (wrp (bin i j))
theorem bins_succ (i m : Nat) : bins i (m + 1) = bins i m ++ [.int .i64 (wrp (bin i m))] := by simp [bins, List.range_succ]
theorem bins_get (i m j : Nat) (h : j < m) : (bins i m)[j]? = some (.int .i64 (wrp (bin i j))) := by simp [bins, h]
theorem bins_one (i : Nat) : bins i 1 = [.int .i64 1] := by
  rw [bins_succ, bin_zero, wrp_small (by omega)]; rfl
/-- A row of them. -/
def RowB (w : World) (v : Value) (i : Nat) : Prop := ∃ g cap, v = .slice (some ⟨g, 0, none⟩) (i + 1) cap ∧ ∀ j, j ≤ i → w.cell? ⟨g, j, none⟩ = some (.int .i64 (wrp (bin i j)))
theorem RowB.below {w w' : World} {v : Value} {i : Nat} (h : RowB w v i) (hb : Below w.heap.size w w') : RowB w' v i := by
  obtain ⟨g, cap, h1, h2⟩ := h
  exact ⟨g, cap, h1, fun j hj => (hb.cell (p := ⟨g, j, none⟩) (lt_of_cell (h2 j hj))).trans (h2 j hj)⟩
theorem rowB_own {w : World} {B i : Nat} {v : Value} (h : w.ownsRow B 3 1 v (i + 1) (bins i (i + 1))) : RowB w v i := by
  obtain ⟨g, cap, e, hc⟩ := own_at h (by omega)
  exact ⟨g, cap, e, fun j hj => by rw [hc j (by omega), bins_get _ _ _ (by omega)]⟩

set_option maxHeartbeats 4000000 in
theorem choose_any (n k : Nat) (w : World) (hn : n ≤ 300) (hk : k ≤ 300) :
    Calls Try.prog 14 #[.int .i64 n, .int .i64 k] w fun e w' => e = .returned (.int .i64 (wrp (bin n k))) ∧ Below w.heap.size w w' := by
  have h0 : (w.alloc (.cells #[.int .i64 1] 3)).ownsRow w.heap.size 3 1 (.slice (some ⟨w.heap.size, 0, none⟩) 1 1) 1 (bins 0 1) := by rw [bins_one]; exact World.ownsRow_lit w #[.int .i64 1] 1 (Nat.le_refl _) (by decide) rfl
  have hb0 : Below w.heap.size w (w.alloc (.cells #[.int .i64 1] 3)) := (Below.refl _ _).alloc (Nat.le_refl _) _
  have H0 := hide (rowB_own h0)
  have HB0 := hide hb0
  obtain ⟨i0, hi, hz0, hz1, hz2⟩ := info_parts infoI
  have HI := hide hi
  have HZ0 := hide hz0
  have HZ1 := hide hz1
  have HZ2 := hide hz2
  clear h0 hb0 hi hz0 hz1 hz2
  go_enter Try.func14, Try.ntmps14
  go_wp2
  go_loopw [5, 6] (fun v t wq => ∃ i : Nat, i ≤ n ∧ t = .int .i64 i ∧ RowB wq v i ∧ Below w.heap.size w wq) (fun _ t _ => n - (intOf t).toNat)
  case atStart => exact ⟨0, by omega, rfl, H0.out, HB0.out⟩
  case round =>
    obtain ⟨i, r1, rfl, r2, r3⟩ := hrel
    have R2 := hide r2
    have R3 := hide r3
    clear r2 r3
    obtain ⟨wo, hwo⟩ : ∃ wo, wo = wr := ⟨_, rfl⟩
    subst hwo
    by_cases hin : i < n
    · obtain ⟨gr, capr, rfl, hrow⟩ := R2.out
      have HROW := hide hrow
      have h1 : (wo.alloc (.cells #[.int .i64 1] 3)).ownsRow wo.heap.size 3 1 (.slice (some ⟨wo.heap.size, 0, none⟩) 1 1) 1 (bins (i + 1) 1) := by rw [bins_one]; exact World.ownsRow_lit wo #[.int .i64 1] 1 (Nat.le_refl _) (by decide) rfl
      have hb1 : Below wo.heap.size wo (wo.alloc (.cells #[.int .i64 1] 3)) := (Below.refl _ _).alloc (Nat.le_refl _) _
      have H1 := hide h1
      have HB1 := hide hb1
      clear h1 hb1 hrow R2
      go_wp2
      go_loopw [7, 8] (fun v t wq => ∃ j : Nat, 1 ≤ j ∧ j ≤ i + 1 ∧ t = .int .i64 j ∧ wq.ownsRow wo.heap.size 3 1 v j (bins (i + 1) j) ∧ Below wo.heap.size wo wq) (fun _ t _ => i + 1 - (intOf t).toNat)
      case atStart => exact ⟨1, by omega, by omega, rfl, H1.out, HB1.out⟩
      case round =>
        obtain ⟨j, j1, j2, rfl, j3, j4⟩ := hrel
        have J3 := hide j3
        have J4 := hide j4
        have hsz : wo.heap.size ≤ wr.heap.size := j4.size
        clear j3 j4
        by_cases hj : j ≤ i
        · obtain ⟨A, hA⟩ : ∃ A, A = wrp (bin i (j - 1)) := ⟨_, rfl⟩
          obtain ⟨C, hC⟩ : ∃ C, C = wrp (bin i j) := ⟨_, rfl⟩
          have cA : wr.cell? ⟨gr, j - 1, none⟩ = some (.int .i64 A) := by rw [hA]; exact (J4.out.cell (p := ⟨gr, j - 1, none⟩) (lt_of_cell (HROW.out (j - 1) (by omega)))).trans (HROW.out (j - 1) (by omega))
          have cC : wr.cell? ⟨gr, j, none⟩ = some (.int .i64 C) := by rw [hC]; exact (J4.out.cell (p := ⟨gr, j, none⟩) (lt_of_cell (HROW.out j (by omega)))).trans (HROW.out j (by omega))
          have HV : Hid (IntKind.i64.wrap (A + C) = wrp (bin (i + 1) j)) := by
            obtain ⟨q, rfl⟩ : ∃ q, j = q + 1 := ⟨j - 1, by omega⟩
            rw [Hid, hA, hC, wrp_add, bin_succ, show q + 1 - 1 = q by omega]
          have ej : (j : Int) - 1 = ((j - 1 : Nat) : Int) := by omega
          have ejw : IntKind.i64.wrap ((j - 1 : Nat) : Int) = ((j - 1 : Nat) : Int) := by rw [IntKind.wrap_i64]; omega
          have z1 := lt_of_cell cA
          have hjb : ((j - 1 : Nat) : Int) < (i : Int) + 1 := by omega
          have hjc : (j : Int) < (i : Int) + 1 := by omega
          clear hA hC
          go_wp2
          go_region_law ((refine step_append_lies _ (by rfl) _ _ _ (by rfl) wo.heap.size 3 i0 _ 1 8 Try.underlying41 HI.out HZ0.out HZ1.out HZ2.out rfl (by omega) _ _ _ (by rfl) ((J3.out.alloc _).drew) ⟨wr.heap.size, 0, none⟩ 1 1 [.int .i64 (IntKind.i64.wrap (A + C))] (by rfl) (by rfl) (World.news_of_block (cs := #[.int .i64 (IntKind.i64.wrap (A + C))]) (t := 3) (fr := (0, 0)) (heap_alloc_new wr _)) (by simp [Value.oneCell']) (by omega) (by unfold maxLen; omega) (by omega) (by simp; omega) (wr.heap.size + 1) (by simp) ?_; intro g1 c1 w2 hown1 hgrow hat hlt3; have HX2 := hide hown1; have HG2 := hide hgrow; clear hown1 hgrow hat))
          all_goals
            have X : w2.ownsRow wo.heap.size 3 1 (.slice (some ⟨g1, 0, none⟩) (j + 1) c1) (j + 1) (bins (i + 1) (j + 1)) := by
              rw [bins_succ, ← HV.out]
              exact HX2.out
            have Y := grownOwn (J4.out.alloc J4.out.size (.cells #[.int .i64 (IntKind.i64.wrap (A + C))] 3)).drew ((J3.out.alloc (.cells #[.int .i64 (IntKind.i64.wrap (A + C))] 3)).drew) HG2.out
            simp only [List.getElem_toArray, List.getElem_cons_succ, List.getElem_cons_zero, Act.put, List.setIfInBounds_toArray, List.set_cons_zero, List.set_cons_succ]
          all_goals go_wp2
          all_goals go_roundw
          all_goals try (case measure => simp [intOf]; omega)
          all_goals
            have hr : ∃ j' : Nat, 1 ≤ j' ∧ j' ≤ i + 1 ∧ Value.int .i64 ((j : Int) + 1) = .int .i64 j' ∧ w2.ownsRow wo.heap.size 3 1 (.slice (some ⟨g1, 0, none⟩) (j + 1) c1) j' (bins (i + 1) j') ∧ Below wo.heap.size wo w2 := ⟨j + 1, by omega, by omega, by go_num, X, Y⟩
            first
            | exact hr
            | (repeat apply Exists.intro
               exact ⟨hr, rfl⟩)
        · have ej : j = i + 1 := by omega
          subst ej
          go_wp2_with (at_builtin; refine append_one (by rfl) (.tmp 34) (.tmp 35) (by rfl) wo.heap.size _ _ _ (by rfl) (J3.out.alloc _) wr.heap.size 1 1 (by rfl) (cell_new wr 1 3) (by omega) (by simp; omega) ?_; intro v1 w1 hown1 hg1; have HO1 := hide hown1; have HB1 := hide (grownOwn (J4.out.alloc J4.out.size _) (J3.out.alloc _) hg1); clear hown1 hg1)
          have X : RowB w1 v1 (i + 1) := by
            refine rowB_own (B := wo.heap.size) ?_
            rw [bins_succ, bin_self, wrp_small (by omega)]
            exact HO1.out
          have Y := below_on R3.out HB1.out
          go_round
          case rel => exact ⟨i + 1, by omega, by go_num, X, Y⟩
          case measure => simp [intOf]; omega
    · have ein : i = n := by omega
      subst ein
      obtain ⟨gr, capr, rfl, hrow⟩ := R2.out
      clear R2
      by_cases hki : k ≤ i
      · have c1 := hrow k hki
        have hk1 : ¬ (i : Int) < k := by omega
        clear hrow
        go_wp2
        go_ret
        exact ⟨rfl, R3.out⟩
      · have hk1 : (i : Int) < k := by omega
        clear hrow
        go_wp2
        go_ret
        refine ⟨ret_int ?_, R3.out⟩
        rw [bin_big i k (by omega), wrp_small (by omega)]
        rfl
end Go.Proofs.Ytdfpgpekilhelaa.V
