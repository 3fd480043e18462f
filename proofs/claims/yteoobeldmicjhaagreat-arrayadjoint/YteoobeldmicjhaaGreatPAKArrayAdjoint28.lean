/-
  adjointlaw2.back: the kinds Spread and Sum. adjointlaw2.back: the kind Sum.
-/
import Derived.Test.YteoobeldmicjhaaGreatPAKArrayAdjoint20
import Derived.Test.YteoobeldmicjhaaGreatPAKArrayAdjoint22
namespace Go.Proofs.YteoobeldmicjhaaGreat.V
set_option maxRecDepth 20000
open Go.RowKit

set_option maxRecDepth 100000 in
set_option maxHeartbeats 2000000 in
theorem back_9 (ea : Option Addr) (el ec : Nat) (pa : Option Addr) (pl pc : Nat) (la : Option Addr) (ll lc : Nat) (ha : Option Addr) (hl hc : Nat) (ta : Option Addr) (tl tc : Nat) (x : Int) (da : Option Addr) (dl dc : Nat) (ps : List Int) (w : World) (hp : Ints w pa pl ps) (h6 : el ≤ 6) :
    Calls Tryz.prog 14 #[.agg #[.int .i64 9, .slice ea el ec, .slice pa pl pc, .slice la ll lc, .slice ha hl hc, .slice ta tl tc, .int .i64 x], .slice da dl dc] w fun e w' => (∃ (X : Option Addr) (n c : Nat), e = .returned (.agg #[.int .i64 10, .slice none 0 0, .slice X n c, .slice none 0 0, .slice none 0 0, .slice none 0 0, .int .i64 0]) ∧ Lst w' X n c (freeL ps el)) ∧ Below w.heap.size w w' := by
  have HB1 := (Below.refl w.heap.size w).alloc (Nat.le_refl _) (.cells #[.int .i64 9, .slice ea el ec, .slice pa pl pc, .slice la ll lc, .slice ha hl hc, .slice ta tl tc, .int .i64 x] 31)
  have HB2 := hide (HB1.alloc HB1.size (.cells #[.int .i64 0, .slice none 0 0, .slice none 0 0, .slice none 0 0, .slice none 0 0, .slice none 0 0, .int .i64 0] 31))
  have HOP := hide ((OpAt.new w 9 (.slice ea el ec) (.slice pa pl pc) (.slice la ll lc) (.slice ha hl hc) (.slice ta tl tc) x).alloc (.cells #[.int .i64 0, .slice none 0 0, .slice none 0 0, .slice none 0 0, .slice none 0 0, .slice none 0 0, .int .i64 0] 31))
  have hrs := OpAt.new (w.alloc (.cells #[.int .i64 9, .slice ea el ec, .slice pa pl pc, .slice la ll lc, .slice ha hl hc, .slice ta tl tc, .int .i64 x] 31)) 0 (.slice none 0 0) (.slice none 0 0) (.slice none 0 0) (.slice none 0 0) (.slice none 0 0) 0
  simp only [World.size_alloc] at hrs
  have HRS := hide hrs
  obtain ⟨o0, o1, o2, o3, o4, o5, o6⟩ := HOP.out.cells
  clear hrs HB1
  have HPP := hide (hp.below HB2.out)
  have HPL := hide hp.1
  have hpm := hp.2.1
  clear hp
  go_enter Tryz.func14, Tryz.ntmps14
  go_wp2
  obtain ⟨W2, hW2⟩ : ∃ W2, W2 = ((w.alloc (.cells #[.int .i64 9, .slice ea el ec, .slice pa pl pc, .slice la ll lc, .slice ha hl hc, .slice ta tl tc, .int .i64 x] 31)).alloc (.cells #[.int .i64 0, .slice none 0 0, .slice none 0 0, .slice none 0 0, .slice none 0 0, .slice none 0 0, .int .i64 0] 31)) := ⟨_, rfl⟩
  have hs2 : W2.heap.size = w.heap.size + 2 := by rw [hW2]; simp
  rw [← hW2] at HB2 HOP HRS HPP ⊢
  clear hW2 o0 o1 o2 o3 o4 o5 o6
  go_loopw [5, 32] (fun v i wr => ∃ k : Nat, k ≤ el ∧ i = .int .i64 k ∧ wr.ownsRow W2.heap.size 3 1 v (freeL ps k).length ((freeL ps k).map (Value.int .i64)) ∧ Below W2.heap.size W2 wr) (fun _ i _ => el - (intOf i).toNat)
  case atStart => exact ⟨0, Nat.zero_le _, rfl, World.ownsRow_nil _ _ _ _, Below.refl _ _⟩
  case round =>
    obtain ⟨k, hk, rfl, hown, hB⟩ := hrel
    have HO := hide hown
    have HB := hide hB
    have HOR := hide (HOP.out.below hB)
    have HPR := hide (HPP.out.below hB)
    have hrr := HRS.out.below hB
    have HRR := hide hrr
    obtain ⟨o0, o1, o2, o3, o4, o5, o6⟩ := HOR.out.cells
    have hfl := freeL_len ps k
    clear hown hB hrr
    by_cases hlt : k < el
    · go_wp2
      go_loop [7, 38] (fun b i => ∃ j : Nat, j ≤ pl ∧ i = .int .i64 j ∧ b = .bool ((ps.take j).any fun x => x == (k : Int))) (fun _ i => pl - (intOf i).toNat)
      case atStart => exact ⟨0, Nat.zero_le _, rfl, rfl⟩
      case round =>
        obtain ⟨j, hj, rfl, rfl⟩ := hrel
        by_cases hjl : j < pl
        · obtain ⟨pb, po, hpa, _, hpc⟩ := HPR.out.at (by omega)
          subst hpa
          have cj := hpc j hjl
          have HT : Hid ((ps.take (j + 1)).any (fun x => x == (k : Int)) = ((ps.take j).any (fun x => x == (k : Int)) || (ps[j]?.getD 0 == (k : Int)))) := any_take_succ ps j (by rw [HPL.out]; exact hjl)
          clear hpc
          cases q : (ps.take j).any (fun x => x == (k : Int)) with
          | true =>
            have Q : Hid ((ps.take j).any (fun x => x == (k : Int)) = true) := q
            clear q
            go_wp2
            all_goals go_round
            case rel => exact ⟨j + 1, by omega, by go_num, by rw [HT.out, Q.out]; rfl⟩
            case measure => simp [intOf]; omega
          | false =>
            have Q : Hid ((ps.take j).any (fun x => x == (k : Int)) = false) := q
            clear q
            obtain ⟨y, hy⟩ : ∃ y, y = ps[j]?.getD 0 := ⟨_, rfl⟩
            rw [← hy] at cj HT
            clear hy
            obtain ⟨bb, hbb⟩ : ∃ bb, bb = (y == (k : Int)) := ⟨_, rfl⟩
            have hbb' := hbb.symm
            rw [hbb'] at HT
            clear hbb
            go_wp2
            all_goals go_round
            case rel => exact ⟨j + 1, by omega, by go_num, by rw [HT.out, Q.out]; simp⟩
            case measure => simp [intOf]; omega
        · have hjp : j = pl := by omega
          have HT : Hid ((ps.take j).any (fun x => x == (k : Int)) = inB ps k) := by rw [Hid, List.take_of_length_le (by rw [HPL.out]; omega)]; rfl
          rw [HT.out]
          clear HT
          cases q : inB ps k with
          | true =>
            have HE : Hid (freeL ps (k + 1) = freeL ps k) := by rw [Hid, freeL, if_pos q]; simp
            clear q
            go_wp2
            go_roundw
            case rel => exact ⟨k + 1, by omega, by go_num, by rw [HE.out]; exact HO.out, HB.out⟩
            case measure => simp [intOf]; omega
          | false =>
            have HE : Hid (freeL ps (k + 1) = freeL ps k ++ [(k : Int)]) := by rw [Hid, freeL, if_neg (by simp [q])]
            clear q
            go_wp2_with (at_builtin; refine append_list (by rfl) (.tmp 51) (.tmp 53) (by rfl) W2.heap.size _ _ _ (by rfl) (HO.out.alloc _) _ _ _ [(k : Int)] (by rfl) (lst_one wr k (by omega) 3) (by omega) (by have := HB.out.size; simp; omega) ?_; intro v1 w1 hown1 hg1; have HO1 := hide hown1; have HB1 := hide (grown_own (HB.out.alloc HB.out.size _) (HO.out.alloc _) hg1); clear hown1 hg1)
            go_roundw
            case rel =>
              have ho := HO1.out
              refine ⟨k + 1, by omega, by go_num, ?_, HB1.out⟩
              rw [HE.out, List.map_append, List.length_append]
              exact ho
            case measure => simp [intOf]; omega
    · obtain rfl : k = el := by omega
      obtain ⟨X, n, c, rfl, hX, hfar⟩ := newAt_own' (w := W2) HO.out (Nat.le_refl _) rfl (by omega) (fun x hx => by have := freeL_bd ps k x hx; omega)
      obtain ⟨y0, y1, y2, y3, y4, y5, y6⟩ := HRR.out.cells
      have z0 := op7_frozen HRR.out 0
      have z1 := op7_frozen HRR.out 1
      have z2 := op7_frozen HRR.out 2
      have z3 := op7_frozen HRR.out 3
      have z4 := op7_frozen HRR.out 4
      have z5 := op7_frozen HRR.out 5
      have z6 := op7_frozen HRR.out 6
      have HBF := hide (op7_below (b := w.heap.size + 1) (Below.on HB2.out HB.out) (by omega) (.int .i64 10) (.slice none 0 0) (.slice X n c) (.slice none 0 0) (.slice none 0 0) (.slice none 0 0) (.int .i64 0))
      have HXF := hide (op7_lst (b := w.heap.size + 1) hX (fun g o e => by have := hfar g o e; omega) (.int .i64 10) (.slice none 0 0) (.slice X n c) (.slice none 0 0) (.slice none 0 0) (.slice none 0 0) (.int .i64 0))
      go_wp2
      have hput := op7_put HRR.out 10 (.slice none 0 0) (.slice X n c) (.slice none 0 0) (.slice none 0 0) (.slice none 0 0) 0
      obtain ⟨u0, u1, u2, u3, u4, u5, u6⟩ := hput.cells
      exact bodyPost_ret (v := .agg #[.int .i64 10, .slice none 0 0, .slice X n c, .slice none 0 0, .slice none 0 0, .slice none 0 0, .int .i64 0]) (by simp [results, Tryz.results14, go_sem, u0, u1, u2, u3, u4, u5, u6]) rfl ⟨⟨X, n, c, rfl, HXF.out⟩, HBF.out⟩

end Go.Proofs.YteoobeldmicjhaaGreat.V
namespace Go.Proofs.YteoobeldmicjhaaGreat.V
set_option maxRecDepth 20000
open Go.RowKit

set_option maxRecDepth 100000 in
set_option maxHeartbeats 2000000 in
theorem back_10 (ea : Option Addr) (el ec : Nat) (pa : Option Addr) (pl pc : Nat) (la : Option Addr) (ll lc : Nat) (ha : Option Addr) (hl hc : Nat) (ta : Option Addr) (tl tc : Nat) (x : Int) (da : Option Addr) (dl dc : Nat) (ps : List Int) (w : World) (hp : Ints w pa pl ps) (h6 : dl ≤ 6) :
    Calls Tryz.prog 14 #[.agg #[.int .i64 10, .slice ea el ec, .slice pa pl pc, .slice la ll lc, .slice ha hl hc, .slice ta tl tc, .int .i64 x], .slice da dl dc] w fun e w' => (∃ (X : Option Addr) (n c : Nat), e = .returned (.agg #[.int .i64 9, .slice da dl dc, .slice X n c, .slice none 0 0, .slice none 0 0, .slice none 0 0, .int .i64 0]) ∧ Lst w' X n c (freeL ps dl)) ∧ Below w.heap.size w w' := by
  have HB1 := (Below.refl w.heap.size w).alloc (Nat.le_refl _) (.cells #[.int .i64 10, .slice ea el ec, .slice pa pl pc, .slice la ll lc, .slice ha hl hc, .slice ta tl tc, .int .i64 x] 31)
  have HB2 := hide (HB1.alloc HB1.size (.cells #[.int .i64 0, .slice none 0 0, .slice none 0 0, .slice none 0 0, .slice none 0 0, .slice none 0 0, .int .i64 0] 31))
  have HOP := hide ((OpAt.new w 10 (.slice ea el ec) (.slice pa pl pc) (.slice la ll lc) (.slice ha hl hc) (.slice ta tl tc) x).alloc (.cells #[.int .i64 0, .slice none 0 0, .slice none 0 0, .slice none 0 0, .slice none 0 0, .slice none 0 0, .int .i64 0] 31))
  have hrs := OpAt.new (w.alloc (.cells #[.int .i64 10, .slice ea el ec, .slice pa pl pc, .slice la ll lc, .slice ha hl hc, .slice ta tl tc, .int .i64 x] 31)) 0 (.slice none 0 0) (.slice none 0 0) (.slice none 0 0) (.slice none 0 0) (.slice none 0 0) 0
  simp only [World.size_alloc] at hrs
  have HRS := hide hrs
  obtain ⟨o0, o1, o2, o3, o4, o5, o6⟩ := HOP.out.cells
  clear hrs HB1
  have HPP := hide (hp.below HB2.out)
  have HPL := hide hp.1
  have hpm := hp.2.1
  clear hp
  go_enter Tryz.func14, Tryz.ntmps14
  go_wp2
  obtain ⟨W2, hW2⟩ : ∃ W2, W2 = ((w.alloc (.cells #[.int .i64 10, .slice ea el ec, .slice pa pl pc, .slice la ll lc, .slice ha hl hc, .slice ta tl tc, .int .i64 x] 31)).alloc (.cells #[.int .i64 0, .slice none 0 0, .slice none 0 0, .slice none 0 0, .slice none 0 0, .slice none 0 0, .int .i64 0] 31)) := ⟨_, rfl⟩
  have hs2 : W2.heap.size = w.heap.size + 2 := by rw [hW2]; simp
  rw [← hW2] at HB2 HOP HRS HPP ⊢
  clear hW2 o0 o1 o2 o3 o4 o5 o6
  go_loopw [10, 62] (fun v i wr => ∃ k : Nat, k ≤ dl ∧ i = .int .i64 k ∧ wr.ownsRow W2.heap.size 3 1 v (freeL ps k).length ((freeL ps k).map (Value.int .i64)) ∧ Below W2.heap.size W2 wr) (fun _ i _ => dl - (intOf i).toNat)
  case atStart => exact ⟨0, Nat.zero_le _, rfl, World.ownsRow_nil _ _ _ _, Below.refl _ _⟩
  case round =>
    obtain ⟨k, hk, rfl, hown, hB⟩ := hrel
    have HO := hide hown
    have HB := hide hB
    have HOR := hide (HOP.out.below hB)
    have HPR := hide (HPP.out.below hB)
    have hrr := HRS.out.below hB
    have HRR := hide hrr
    obtain ⟨o0, o1, o2, o3, o4, o5, o6⟩ := HOR.out.cells
    have hfl := freeL_len ps k
    clear hown hB hrr
    by_cases hlt : k < dl
    · go_wp2
      go_loop [12, 68] (fun b i => ∃ j : Nat, j ≤ pl ∧ i = .int .i64 j ∧ b = .bool ((ps.take j).any fun x => x == (k : Int))) (fun _ i => pl - (intOf i).toNat)
      case atStart => exact ⟨0, Nat.zero_le _, rfl, rfl⟩
      case round =>
        obtain ⟨j, hj, rfl, rfl⟩ := hrel
        by_cases hjl : j < pl
        · obtain ⟨pb, po, hpa, _, hpc⟩ := HPR.out.at (by omega)
          subst hpa
          have cj := hpc j hjl
          have HT : Hid ((ps.take (j + 1)).any (fun x => x == (k : Int)) = ((ps.take j).any (fun x => x == (k : Int)) || (ps[j]?.getD 0 == (k : Int)))) := any_take_succ ps j (by rw [HPL.out]; exact hjl)
          clear hpc
          cases q : (ps.take j).any (fun x => x == (k : Int)) with
          | true =>
            have Q : Hid ((ps.take j).any (fun x => x == (k : Int)) = true) := q
            clear q
            go_wp2
            all_goals go_round
            case rel => exact ⟨j + 1, by omega, by go_num, by rw [HT.out, Q.out]; rfl⟩
            case measure => simp [intOf]; omega
          | false =>
            have Q : Hid ((ps.take j).any (fun x => x == (k : Int)) = false) := q
            clear q
            obtain ⟨y, hy⟩ : ∃ y, y = ps[j]?.getD 0 := ⟨_, rfl⟩
            rw [← hy] at cj HT
            clear hy
            obtain ⟨bb, hbb⟩ : ∃ bb, bb = (y == (k : Int)) := ⟨_, rfl⟩
            have hbb' := hbb.symm
            rw [hbb'] at HT
            clear hbb
            go_wp2
            all_goals go_round
            case rel => exact ⟨j + 1, by omega, by go_num, by rw [HT.out, Q.out]; simp⟩
            case measure => simp [intOf]; omega
        · have hjp : j = pl := by omega
          have HT : Hid ((ps.take j).any (fun x => x == (k : Int)) = inB ps k) := by rw [Hid, List.take_of_length_le (by rw [HPL.out]; omega)]; rfl
          rw [HT.out]
          clear HT
          cases q : inB ps k with
          | true =>
            have HE : Hid (freeL ps (k + 1) = freeL ps k) := by rw [Hid, freeL, if_pos q]; simp
            clear q
            go_wp2
            go_roundw
            case rel => exact ⟨k + 1, by omega, by go_num, by rw [HE.out]; exact HO.out, HB.out⟩
            case measure => simp [intOf]; omega
          | false =>
            have HE : Hid (freeL ps (k + 1) = freeL ps k ++ [(k : Int)]) := by rw [Hid, freeL, if_neg (by simp [q])]
            clear q
            go_wp2_with (at_builtin; refine append_list (by rfl) (.tmp 81) (.tmp 83) (by rfl) W2.heap.size _ _ _ (by rfl) (HO.out.alloc _) _ _ _ [(k : Int)] (by rfl) (lst_one wr k (by omega) 3) (by omega) (by have := HB.out.size; simp; omega) ?_; intro v1 w1 hown1 hg1; have HO1 := hide hown1; have HB1 := hide (grown_own (HB.out.alloc HB.out.size _) (HO.out.alloc _) hg1); clear hown1 hg1)
            go_roundw
            case rel =>
              have ho := HO1.out
              refine ⟨k + 1, by omega, by go_num, ?_, HB1.out⟩
              rw [HE.out, List.map_append, List.length_append]
              exact ho
            case measure => simp [intOf]; omega
    · have hkn : k = dl := by omega
      have ho := HO.out
      rw [hkn] at ho
      have hfl2 := freeL_len ps dl
      obtain ⟨X, n, c, rfl, hX, hfar⟩ := newAt_own' (w := W2) ho (Nat.le_refl _) rfl (by omega) (fun x hx => by have := freeL_bd ps dl x hx; omega)
      clear ho hkn
      obtain ⟨y0, y1, y2, y3, y4, y5, y6⟩ := HRR.out.cells
      have z0 := op7_frozen HRR.out 0
      have z1 := op7_frozen HRR.out 1
      have z2 := op7_frozen HRR.out 2
      have z3 := op7_frozen HRR.out 3
      have z4 := op7_frozen HRR.out 4
      have z5 := op7_frozen HRR.out 5
      have z6 := op7_frozen HRR.out 6
      have HBF := hide (op7_below (b := w.heap.size + 1) (Below.on HB2.out HB.out) (by omega) (.int .i64 9) (.slice da dl dc) (.slice X n c) (.slice none 0 0) (.slice none 0 0) (.slice none 0 0) (.int .i64 0))
      have HXF := hide (op7_lst (b := w.heap.size + 1) hX (fun g o e => by have := hfar g o e; omega) (.int .i64 9) (.slice da dl dc) (.slice X n c) (.slice none 0 0) (.slice none 0 0) (.slice none 0 0) (.int .i64 0))
      go_wp2
      have hput := op7_put HRR.out 9 (.slice da dl dc) (.slice X n c) (.slice none 0 0) (.slice none 0 0) (.slice none 0 0) 0
      obtain ⟨u0, u1, u2, u3, u4, u5, u6⟩ := hput.cells
      exact bodyPost_ret (v := .agg #[.int .i64 9, .slice da dl dc, .slice X n c, .slice none 0 0, .slice none 0 0, .slice none 0 0, .int .i64 0]) (by simp [results, Tryz.results14, go_sem, u0, u1, u2, u3, u4, u5, u6]) rfl ⟨⟨X, n, c, rfl, HXF.out⟩, HBF.out⟩

end Go.Proofs.YteoobeldmicjhaaGreat.V
