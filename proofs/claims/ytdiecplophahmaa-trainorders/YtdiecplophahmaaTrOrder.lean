/-
  Contracts: train.Order, adjointref16.Order.
-/
import Derived.Test.YtdiecplophahmaaTrMix
namespace Go.Proofs.Ytdiecplophahmaa.V
open Go.RowKit

def ordB (rows ep : Int) : Bool := decide (rows < 0) || (decide (4096 < rows) || (decide (ep < 0) || decide (1048576 < ep)))
theorem mixJ_is2 (x : Int) (k : Nat) (hk : k ≤ 4096) : wrap64 ((IntKind.u64.wrap ((IntKind.u64.wrap (IntKind.u64.wrap (6364136223846793005 * x) + 1442695040888963407)).tdiv 8589934592)).tmod ((k : Int) + 1)) = ((mixJ (mixS x) k : Nat) : Int) := by
  have e := mixJ_is x k
  have h := mixS_nn x
  unfold mixS at h
  rw [Int.tdiv_eq_ediv_of_nonneg h.1, show IntKind.u64.wrap (IntKind.u64.wrap (IntKind.u64.wrap (6364136223846793005 * x) + 1442695040888963407) / 8589934592) = IntKind.u64.wrap (IntKind.u64.wrap (6364136223846793005 * x) + 1442695040888963407) / 8589934592 from ?_, e]
  · have := mixJ_le (mixS x) k
    unfold wrap64; omega
  · rw [IntKind.wrap_u64 (_ / _)]
    omega
def ordL (s : ByteArray) (n : Nat) (ep : Int) : List Int := mixL (n - 1) (sdE (sdN s s.size) ep) (rangeI n)

set_option maxHeartbeats 2000000 in
theorem order_bad (s : ByteArray) (rows ep : Int) (w : World) (h : ordB rows ep = true) :
    Calls Try.prog 4 #[.string s, .int .i64 rows, .int .i64 ep] w fun e w' => e = .returned (.tuple #[.slice none 0 0, .int .i64 4]) ∧ w' = w := by
  unfold ordB at h
  by_cases h1 : rows < 0
  · go_enter Try.func4, Try.ntmps4
    go_wp2
    go_ret2
    exact ⟨rfl, rfl⟩
  by_cases h2 : 4096 < rows
  · go_enter Try.func4, Try.ntmps4
    go_wp2
    go_ret2
    exact ⟨rfl, rfl⟩
  by_cases h3 : ep < 0
  · go_enter Try.func4, Try.ntmps4
    go_wp2
    go_ret2
    exact ⟨rfl, rfl⟩
  by_cases h4 : 1048576 < ep
  · go_enter Try.func4, Try.ntmps4
    go_wp2
    go_ret2
    exact ⟨rfl, rfl⟩
  · simp [h1, h2, h3, h4] at h
set_option maxHeartbeats 2000000 in
theorem rOrder_bad (s : ByteArray) (rows ep : Int) (w : World) (h : ordB rows ep = true) :
    Calls Try.prog 5 #[.string s, .int .i64 rows, .int .i64 ep] w fun e w' => e = .returned (.tuple #[.slice none 0 0, .int .i64 4]) ∧ w' = w := by
  unfold ordB at h
  by_cases h1 : rows < 0
  · go_enter Try.func5, Try.ntmps5
    go_wp2
    go_ret2
    exact ⟨rfl, rfl⟩
  by_cases h2 : 4096 < rows
  · go_enter Try.func5, Try.ntmps5
    go_wp2
    go_ret2
    exact ⟨rfl, rfl⟩
  by_cases h3 : ep < 0
  · go_enter Try.func5, Try.ntmps5
    go_wp2
    go_ret2
    exact ⟨rfl, rfl⟩
  by_cases h4 : 1048576 < ep
  · go_enter Try.func5, Try.ntmps5
    go_wp2
    go_ret2
    exact ⟨rfl, rfl⟩
  · simp [h1, h2, h3, h4] at h

set_option maxHeartbeats 2000000 in
theorem order_good (s : ByteArray) (n : Nat) (ep : Int) (w : World) (hs : s.size ≤ 9223372036854775807) (hn : n ≤ 4096) (h3 : 0 ≤ ep) (h4 : ep ≤ 1048576) :
    Calls Try.prog 4 #[.string s, .int .i64 n, .int .i64 ep] w fun e w' => (∃ v, e = .returned (.tuple #[v, .int .i64 0]) ∧ OI w' w.heap.size v (ordL s n ep)) ∧ Below w.heap.size w w' := by
  have hn0 : ¬ ((n : Int) < 0) := by omega
  have hn1 : ¬ (4096 < (n : Int)) := by omega
  have h3' : ¬ (ep < 0) := by omega
  have h4' : ¬ (1048576 < ep) := by omega
  have HS := hide (seeded_any s w hs)
  have HM := hide (mixed_any (sdN s s.size) n ep w hn)
  clear h3 h4 hs
  go_enter Try.func4, Try.ntmps4
  go_wp2_with (first
    | (go_at_call 8; refine HS.out.mono ?_; rintro e w' ⟨rfl, hw'⟩; obtain rfl := hw'.symm)
    | (go_at_call 7; refine HM.out.mono ?_; rintro e w1 ⟨⟨v, rfl, ho⟩, hb⟩; have HO := hide ho; have HB := hide hb; clear ho hb))
  go_ret2
  exact ⟨⟨_, rfl, HO.out⟩, HB.out⟩

set_option maxRecDepth 100000 in
set_option maxHeartbeats 4000000 in
theorem rOrder_good (s : ByteArray) (n : Nat) (ep : Int) (w : World) (hs : s.size ≤ 9223372036854775807) (hn : n ≤ 4096) (h3 : 0 ≤ ep) (h4 : ep ≤ 1048576) :
    Calls Try.prog 5 #[.string s, .int .i64 n, .int .i64 ep] w fun e w' => (∃ v, e = .returned (.tuple #[v, .int .i64 0]) ∧ OI w' w.heap.size v (ordL s n ep)) ∧ Below w.heap.size w w' := by
  have hn0 : ¬ ((n : Int) < 0) := by omega
  have hn1 : ¬ (4096 < (n : Int)) := by omega
  have h3' : ¬ (ep < 0) := by omega
  have h4' : ¬ (1048576 < ep) := by omega
  have HSZ := hide hs
  have HOL : Hid (ordL s n ep = mixL (n - 1) (sdE (sdN s s.size) ep) (rangeI n)) := rfl
  obtain ⟨F, hF⟩ : ∃ F, F = ordL s n ep := ⟨_, rfl⟩
  rw [← hF]
  rw [← hF] at HOL
  clear h3 h4 hs hF
  go_enter Try.func5, Try.ntmps5
  go_wp2
  go_loop [8, 9] (fun v i => ∃ k : Nat, k ≤ s.size ∧ i = .int .i64 k ∧ v = .int .u64 (sdN s k)) (fun _ i => s.size - (intOf i).toNat)
  case atStart => exact ⟨0, Nat.zero_le _, rfl, rfl⟩
  case round =>
    obtain ⟨k, hk, rfl, rfl⟩ := hrel
    have hs := HSZ.out
    by_cases hlt : k < s.size
    · have i2 : (k : Int) < (s.size : Int) := by omega
      go_wp2
      refine ⟨⟨k + 1, hlt, by go_num, ?_⟩, by simp [intOf]; omega⟩
      simp [sdN, byI, hlt]
    · obtain rfl : k = s.size := by omega
      clear hk hlt hs
      have HE : Hid (sdE (sdN s s.size) ep = IntKind.u64.wrap (IntKind.u64.wrap (IntKind.u64.wrap (1099511628211 * sdN s s.size) + ep) + 1)) := by
        rw [Hid, sdE, show IntKind.u64.wrap ep = ep by rw [IntKind.wrap_u64]; omega]
      go_wp2
      go_loopw [10, 11] (fun v i wr => ∃ k : Nat, k ≤ n ∧ i = .int .i64 k ∧ OI wr w.heap.size v (rangeI k) ∧ Below w.heap.size w wr) (fun _ i _ => n - (intOf i).toNat)
      case atStart => exact ⟨0, Nat.zero_le _, rfl, World.ownsRow_nil _ _ _ _, Below.refl _ _⟩
      case round =>
        obtain ⟨k, hk, rfl, ho, hb⟩ := hrel
        have HO := hide ho
        have HB := hide hb
        have hsz := hb.size
        clear ho hb
        by_cases hlt : k < n
        · have HL := hide (rangeI_len k)
          go_wp2_with (at_builtin; refine append_list (by rfl) (.tmp 53) (.tmp 55) (by rfl) w.heap.size _ _ _ (by rfl) (HO.out.alloc _) _ _ _ [(k : Int)] (by rfl) (lst_one _ k (by omega) 3) (by rw [HL.out]; omega) (by simp; omega) ?_; intro v1 w1 hown1 hg1; have HW1 := hide hown1; have HG1 := hide hg1; clear hown1 hg1)
          go_roundw
          case rel =>
            refine ⟨k + 1, by omega, by go_num, ?_, ?_⟩
            · have := HW1.out
              unfold OI
              rw [rangeI_succ, List.length_append, List.map_append]
              exact this
            · exact (HB.out.alloc HB.out.size _).grown HG1.out (by have := HB.out.size; simp; omega) (fun j e => (World.ownsRow.lt HO.out j e).1)
          case measure => simp [intOf]; omega
        · obtain rfl : k = n := by omega
          clear hlt hk
          by_cases h0 : k = 0
          · subst h0
            go_wp2
            go_loopw [8, 12] (fun _ i wr' => i = .int .i64 (-1) ∧ wr' = wr) (fun _ _ _ => 0)
            case atStart => exact ⟨rfl, rfl⟩
            case round =>
              obtain ⟨rfl, rfl⟩ := hrel
              go_wp2
              go_ret2
              exact ⟨⟨_, rfl, by rw [HOL.out]; exact HO.out⟩, HB.out⟩
          · obtain ⟨g, cap, rfl, hcap, hg, hgl⟩ := HO.out.form (rangeI_len k) (by omega)
            go_wp2
            go_loopw [8, 12] (fun u i wr => ∃ (m : Nat) (x : Int) (l : List Int), m < k ∧ i = .int .i64 m ∧ u = .int .u64 x ∧ l.length = k ∧ mixL m x l = F ∧ OI wr w.heap.size (.slice (some ⟨g, 0, none⟩) k cap) l ∧ Below w.heap.size w wr) (fun _ i _ => (intOf i).toNat)
            case atStart =>
              refine ⟨k - 1, _, rangeI k, by omega, ?_, rfl, rangeI_len k, ?_, HO.out, HB.out⟩
              · have : ((k - 1 : Nat) : Int) = (k : Int) - 1 := by omega
                rw [this]
              · rw [HOL.out, HE.out]
            case round =>
              clear HO HB hgl hsz
              obtain ⟨m, x, l, hm, rfl, rfl, hl, hx, ho, hb⟩ := hrel
              have HO1 := hide ho
              have HB1 := hide hb
              have HL := hide hl
              have HM := hide hx
              clear ho hb hl hx
              by_cases h1 : 1 ≤ m
              · obtain ⟨j, hj⟩ : ∃ j, j = mixJ (mixS x) m := ⟨_, rfl⟩
                have hjk : j ≤ m := by rw [hj]; exact mixJ_le _ _
                have ej := mixJ_is2 x m (by omega)
                rw [← hj] at ej
                have EJ := hide ej
                have HJ := hide hj
                clear ej hj
                go_upto_region 19 with fail
                rw [EJ.out]
                have HS : Hid (mixS x = IntKind.u64.wrap (IntKind.u64.wrap (6364136223846793005 * x) + 1442695040888963407)) := rfl
                obtain ⟨y, hy⟩ : ∃ y, y = IntKind.u64.wrap (IntKind.u64.wrap (6364136223846793005 * x) + 1442695040888963407) := ⟨_, rfl⟩
                rw [← hy]
                rw [← hy] at HS
                clear hy EJ
                have hck := HO1.out.cell HL.out (j := m) (by omega)
                have hcj := HO1.out.cell HL.out (j := j) (by omega)
                have hfk := HO1.out.frozen HL.out m
                have hfj := HO1.out.frozen HL.out j
                have i1 : (0 : Int) ≤ (j : Int) := Int.natCast_nonneg _
                have i2 : (j : Int) < (k : Int) := by omega
                have i3 : (0 : Int) ≤ (m : Int) := Int.natCast_nonneg _
                have i4 : (m : Int) < (k : Int) := by omega
                obtain ⟨u2, hc2⟩ := HO1.out.cell2 HL.out m (l[j]?.getD 0) (j := j) (by omega)
                go_region
                go_wp2
                go_roundw
                case rel =>
                  obtain ⟨k', rfl⟩ : ∃ k', m = k' + 1 := ⟨m - 1, by omega⟩
                  refine ⟨k', y, swapL l (k' + 1) j, by omega, by go_num, rfl, by rw [swapL_len]; exact HL.out, ?_, ?_, ?_⟩
                  · rw [← HM.out, ← HS.out, HJ.out]; rfl
                  · exact World.ownsRow.drew (HO1.out.swap HL.out (k' + 1) j)
                  · exact ((HB1.out.setCell (p := ⟨g, k' + 1, none⟩) hg _).setCell (p := ⟨g, j, none⟩) hg _).drew
                case measure => simp [intOf]; omega
              · obtain rfl : m = 0 := by omega
                go_wp2
                go_ret2
                exact ⟨⟨_, rfl, by rw [← HM.out]; exact HO1.out⟩, HB1.out⟩
end Go.Proofs.Ytdiecplophahmaa.V
