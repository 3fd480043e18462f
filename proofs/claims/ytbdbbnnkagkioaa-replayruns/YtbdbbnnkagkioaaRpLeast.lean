/-
  Contracts: replay.Least, adjointref8.Wrong, adjointref8.Least; the law ReplayLeast.
-/
import Derived.Test.YtbdbbnnkagkioaaRpApp
namespace Go.Proofs.Ytbdbbnnkagkioaa.V
open Go.RowKit
set_option linter.unusedVariables false

theorem wrongN_ok {n s : Int} (h : wrongN n s = 0) : ∃ N S : Nat, n = N ∧ s = S ∧ N ≤ 256 ∧ S ≤ 16 ∧ ¬ (2 ≤ N ∧ S = 0) := by
  unfold wrongN at h
  by_cases c : okB n s = false
  · simp [c] at h
  · simp only [c] at h
    have c' : okB n s = true := by simpa using c
    simp [okB] at c'
    by_cases x : 2 ≤ n ∧ s = 0
    · simp [x] at h
    · exact ⟨n.toNat, s.toNat, by omega, by omega, by omega, by omega, by omega⟩
/-- What Least says. -/
def leastN (n s : Int) : Int := if wrongN n s = 0 then (T s.toNat n.toNat : Nat) else 0

set_option maxHeartbeats 400000 in
theorem rWrong_any (n s : Int) (w : World) :
    Calls Try.prog 9 #[.int .i64 n, .int .i64 s] w fun e w' => e = .returned (.int .i64 (wrongN n s)) ∧ w' = w := by
  go_enter Try.func9, Try.ntmps9
  go_wp2
  all_goals go_ret
  all_goals refine ⟨?_, rfl⟩
  all_goals refine ret_int ?_
  all_goals try simp only [beq_iff_eq, beq_eq_false_iff_ne] at *
  all_goals first
  | (have e : okB n s = false := by simp [okB]; omega
     rw [wrongN, if_pos e]; done)
  | (have e : ¬ okB n s = false := by simp [okB]; omega
     rw [wrongN, if_neg e, if_pos (by omega)]; done)
  | (have e : ¬ okB n s = false := by simp [okB]; omega
     rw [wrongN, if_neg e, if_neg (by omega)])

theorem cell_new (w : World) (x : Int) (t : TypeId) : (w.alloc (.cells #[.int .i64 x] t)).cell? ⟨w.heap.size, 0, none⟩ = some (.int .i64 x) := by
  unfold World.cell?
  rw [World.alloc_heap_new w (.cells #[.int .i64 x] t)]
  rfl

set_option maxHeartbeats 4000000 in
theorem rLeast_ok (n S : Nat) (w : World) (hn : n ≤ 256) (hS : S ≤ 16) (h : ¬ (2 ≤ n ∧ S = 0)) (hw : wrongN n S = 0) :
    Calls Try.prog 5 #[.int .i64 n, .int .i64 S] w fun e w' => e = .returned (.tuple #[.int .i64 (T S n : Nat), .int .i64 0]) ∧ Below w.heap.size w w' := by
  by_cases c : (n : Int) < 2
  · rw [T_zero (.inr (by omega))]
    go_enter Try.func5, Try.ntmps5
    go_wp2_with (go_at_call 9; refine (rWrong_any _ _ _).mono ?_; rintro e w' ⟨rfl, rfl⟩; rw [hw])
    exact bodyPost_ret (v := .tuple #[.int .i64 0, .int .i64 0]) (by simp [results, Try.results5, go_sem]) rfl ⟨rfl, Below.refl _ _⟩
  · have hS1 : 1 ≤ S := by omega
    go_enter Try.func5, Try.ntmps5
    go_wp2_with (go_at_call 9; refine (rWrong_any _ _ _).mono ?_; rintro e w' ⟨rfl, rfl⟩; rw [hw])
    have HB0 : Hid (Below w'.heap.size w' w') := Below.refl _ _
    go_loopw [7, 8] (fun v i wr => ∃ s : Nat, 1 ≤ s ∧ s ≤ S + 1 ∧ i = .int .i64 s ∧ Bef wr v (s - 1) n ∧ Below w'.heap.size w' wr) (fun _ i _ => S + 1 - (intOf i).toNat)
    case atStart => exact ⟨1, by omega, by omega, rfl, .inl ⟨rfl, rfl⟩, HB0.out⟩
    case round =>
      obtain ⟨s, s1, s2, rfl, r1, r2⟩ := hrel
      have R1 := hide r1
      have R2 := hide r2
      clear r1 r2
      obtain ⟨wo, hwo⟩ : ∃ wo, wo = wr := ⟨_, rfl⟩
      subst hwo
      by_cases hs : s ≤ S
      · have ho0 : (wo.alloc (.cells #[.int .i64 0, .int .i64 0] 3)).ownsRow wo.heap.size 3 1 (.slice (some ⟨wo.heap.size, 0, none⟩) 2 2) 2 (costs s 2) := by rw [costs_two]; exact World.ownsRow_lit wo #[.int .i64 0, .int .i64 0] 2 (Nat.le_refl _) (by decide) rfl
        have hb0 : Below wo.heap.size wo (wo.alloc (.cells #[.int .i64 0, .int .i64 0] 3)) := (Below.refl _ _).alloc (Nat.le_refl _) _
        have HO0 := hide ho0
        have HBB := hide hb0
        clear ho0 hb0
        go_wp2
        go_loopw [9, 10] (fun v i wm => ∃ m : Nat, 2 ≤ m ∧ m ≤ n + 1 ∧ i = .int .i64 m ∧ wm.ownsRow wo.heap.size 3 1 v m (costs s m) ∧ Below wo.heap.size wo wm) (fun _ i _ => n + 1 - (intOf i).toNat)
        case atStart => exact ⟨2, by omega, by omega, rfl, HO0.out, HBB.out⟩
        case round =>
          obtain ⟨m, m1, m2, rfl, r3, r4⟩ := hrel
          have R3 := hide r3
          have R4 := hide r4
          clear r3 r4
          by_cases hm : m ≤ n
          · obtain ⟨gg, hgg⟩ : ∃ gg : Nat → Nat, ∀ j, gg j = j + T s j + T (s - 1) (m - j) := ⟨_, fun _ => rfl⟩
            obtain ⟨g9, cap9, rfl, hc9⟩ := own_at R3.out (by omega)
            have q0 := T_small s (m - 1) (by omega)
            have eg : m - 1 + T s (m - 1) = gg (m - 1) := by rw [hgg, T_zero (s := s - 1) (n := m - (m - 1)) (.inr (by omega))]; rfl
            have HC9 : Hid (∀ j, j < m → wr.cell? ⟨g9, j, none⟩ = some (.int .i64 (T s j : Nat))) := fun j hj => by rw [hc9 j hj, costs_get _ _ _ hj]
            have c9 := HC9.out (m - 1) (by omega)
            have HGG := hide hgg
            have HEG := hide eg
            have q9 : gg (m - 1) ≤ 200000 := by omega
            have em1 : ((m : Int) - 1 + (T s (m - 1) : Nat)) = (gg (m - 1) : Nat) := by omega
            clear hc9 hgg eg
            go_wp2
            clear em1
            go_loopw [11, 12] (fun l i wx => ∃ L k j : Nat, (wx.ownsRow wo.heap.size 3 1 (.slice (some ⟨g9, 0, none⟩) m cap9) m (costs s m) ∧ Below wo.heap.size wo wx) ∧ l = .int .i64 L ∧ i = .int .i64 k ∧ 1 ≤ k ∧ k ≤ m ∧ 1 ≤ j ∧ j < m ∧ L = gg j ∧ (s = 1 → j = m - 1) ∧ L ≤ gg (m - 1) ∧ (∀ t, 1 ≤ t → t < k → L ≤ gg t)) (fun _ i _ => m - (intOf i).toNat)
            case atStart => exact ⟨gg (m - 1), 1, m - 1, ⟨R3.out, R4.out⟩, rfl, rfl, by omega, by omega, by omega, by omega, rfl, fun _ => rfl, Nat.le_refl _, fun t h1 h2 => by omega⟩
            case round =>
              obtain ⟨L, k, j, ⟨r5, r6⟩, rfl, rfl, k1, k2, j1, j2, eL, es, x1, x2⟩ := hrel
              have X2 := hide x2
              have q1 : L ≤ 200000 := by omega
              have EL := hide eL
              have R5 := hide r5
              have R6 := hide r6
              clear x2 eL r5 r6 c9 HC9 R3 R4
              have HC9 : Hid (∀ j, j < m → wr.cell? ⟨g9, j, none⟩ = some (.int .i64 (T s j : Nat))) := fun j hj => by rw [R5.out.cellAt j (by omega), costs_get _ _ _ hj]
              by_cases hk : k < m ∧ 1 < s
              · obtain ⟨hk, hs1⟩ := hk
                have c1 := HC9.out k hk
                rcases R1.out with ⟨e, _⟩ | ⟨g7, cap7, rfl, hc7⟩
                · omega
                · have c7 : wr.cell? ⟨g7, m - k, none⟩ = some (.int .i64 (T (s - 1) (m - k) : Nat)) := (R6.out.cell (p := ⟨g7, m - k, none⟩) (lt_of_cell (hc7 (m - k) (by omega)))).trans (hc7 (m - k) (by omega))
                  have q2 := T_small s k (by omega)
                  have q3 := T_small (s - 1) (m - k) (by omega)
                  have ek : (k : Int) + (T s k : Nat) + (T (s - 1) (m - k) : Nat) = (gg k : Nat) := by rw [HGG.out k]; omega
                  have hs1' : (1 : Int) < s := by omega
                  clear hc7
                  have q4 : gg k ≤ 200000 := by omega
                  go_wp2
                  go_region
                  go_wp2
                  · have hlt : gg k < L := by assumption
                    have X3 : ∀ t, 1 ≤ t → t < k + 1 → gg k ≤ gg t := by
                      intro t t1 t2
                      by_cases e : t = k
                      · rw [e]; exact Nat.le_refl _
                      · have := X2.out t t1 (by omega); omega
                    go_round
                    case rel => exact ⟨gg k, k + 1, k, ⟨R5.out, R6.out.drew⟩, rfl, by go_num, by omega, by omega, by omega, hk, rfl, fun e => by omega, by omega, X3⟩
                    case measure => simp [intOf]; omega
                  · have hlt : ¬ gg k < L := by assumption
                    have X3 : ∀ t, 1 ≤ t → t < k + 1 → L ≤ gg t := by
                      intro t t1 t2
                      by_cases e : t = k
                      · rw [e]; omega
                      · exact X2.out t t1 (by omega)
                    go_round
                    case rel => exact ⟨L, k + 1, j, ⟨R5.out, R6.out.drew⟩, rfl, by go_num, by omega, by omega, j1, j2, EL.out, es, x1, X3⟩
                    case measure => simp [intOf]; omega
              · have eT : L = T s m := by
                  by_cases hs1 : s = 1
                  · subst hs1
                    rw [EL.out, es rfl, HGG.out, T_one m1, T_zero (s := 1 - 1) (.inl rfl), Nat.add_zero]
                  · refine T_is (by omega) m1 ⟨j, j1, j2, by rw [EL.out, HGG.out]⟩ fun t t1 t2 => ?_
                    rw [← HGG.out t]
                    by_cases e : t = m - 1
                    · rw [e]; exact x1
                    · exact X2.out t t1 (by omega)
                have HET := hide eT
                have hbase : wo.heap.size ≤ wr.heap.size := R6.out.size
                by_cases hk' : k < m
                · have hs1' : ¬ (1 : Int) < s := by omega
                  go_wp2_with (at_builtin; refine append_one (by rfl) (.tmp 67) (.tmp 69) (by rfl) wo.heap.size _ _ _ (by rfl) (R5.out.alloc _) wr.heap.size 1 (T s m : Nat) (by rfl) (cell_new wr _ 3) (by omega) (by simp; omega) ?_; intro v1 w1 hown1 hg1; have HO1 := hide hown1; have HB1 := hide (grownOwn (R6.out.alloc R6.out.size _) (R5.out.alloc _) hg1); clear hown1 hg1)
                  go_roundw
                  case rel =>
                    have ho := HO1.out
                    refine ⟨m + 1, by omega, by omega, by go_num, ?_, HB1.out⟩
                    rw [costs_succ]
                    exact ho
                  case measure => simp [intOf]; omega
                · go_wp2_with (at_builtin; refine append_one (by rfl) (.tmp 67) (.tmp 69) (by rfl) wo.heap.size _ _ _ (by rfl) (R5.out.alloc _) wr.heap.size 1 (T s m : Nat) (by rfl) (cell_new wr _ 3) (by omega) (by simp; omega) ?_; intro v1 w1 hown1 hg1; have HO1 := hide hown1; have HB1 := hide (grownOwn (R6.out.alloc R6.out.size _) (R5.out.alloc _) hg1); clear hown1 hg1)
                  go_roundw
                  case rel =>
                    have ho := HO1.out
                    refine ⟨m + 1, by omega, by omega, by go_num, ?_, HB1.out⟩
                    rw [costs_succ]
                    exact ho
                  case measure => simp [intOf]; omega
          · have em : m = n + 1 := by omega
            subst em
            have X := bef_own R3.out
            have Y := below_on R2.out R4.out
            go_wp2
            go_round
            case rel => exact ⟨s + 1, by omega, by omega, by go_num, X, Y⟩
            case measure => simp [intOf]; omega
      · have es : s = S + 1 := by omega
        subst es
        rcases R1.out with ⟨e, _⟩ | ⟨g, cap, rfl, hc⟩
        · omega
        · have hcn := hc n (Nat.le_refl _)
          rw [show S + 1 - 1 = S by omega] at hcn
          clear hc
          go_wp2
          exact bodyPost_ret (v := .tuple #[.int .i64 (T S n : Nat), .int .i64 0]) (by simp [results, Try.results5, go_sem]) rfl ⟨rfl, R2.out⟩

theorem rLeast_any (n s : Int) (w : World) :
    Calls Try.prog 5 #[.int .i64 n, .int .i64 s] w fun e w' => e = .returned (.tuple #[.int .i64 (leastN n s), .int .i64 (wrongN n s)]) ∧ Below w.heap.size w w' := by
  by_cases c : wrongN n s = 0
  · obtain ⟨N, S, rfl, rfl, h1, h2, h3⟩ := wrongN_ok c
    have e : leastN (N : Int) (S : Int) = (T S N : Nat) := by simp [leastN, c]
    rw [e, c]
    exact rLeast_ok N S w h1 h2 h3 c
  · have e : leastN n s = 0 := by simp [leastN, c]
    rw [e]
    have c1 : (wrongN n s != 0) = true := by simpa using c
    go_enter Try.func5, Try.ntmps5
    go_wp2_with (go_at_call 9; refine (rWrong_any n s _).mono ?_; rintro e w' ⟨rfl, rfl⟩)
    exact bodyPost_ret (v := .tuple #[.int .i64 0, .int .i64 (wrongN n s)]) (by simp [results, Try.results5, go_sem]) rfl ⟨rfl, Below.refl _ _⟩

end Go.Proofs.Ytbdbbnnkagkioaa.V
