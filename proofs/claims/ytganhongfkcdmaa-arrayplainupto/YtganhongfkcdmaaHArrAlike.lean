/-
  Contracts: array.shape and adjointref2.ruled where all dimensions must be alike.
-/
import Derived.Test.YtganhongfkcdmaaHArrOnce
import Derived.Test.YtganhongfkcdmaaHArrJoin
namespace Go.Proofs.Ytganhongfkcdmaa.V
open Go.RowKit

set_option maxRecDepth 100000 in
set_option maxHeartbeats 2000000 in
theorem shape_same (k x : Int) (ea : Option Addr) (el ec : Nat) (es : List Int) (pa : Option Addr) (pl pc : Nat) (ps : List Int) (la : Option Addr) (ll lc : Nat) (lo : List Int) (ha : Option Addr) (hl hc : Nat) (hi : List Int) (ta : Option Addr) (tl tc : Nat) (st : List Int) (A : Option Addr) (len cap : Nat) (xss : List (List Int)) (w : World)
    (he : Lst w ea el ec es) (hp : Lst w pa pl pc ps) (hlo : Lst w la ll lc lo) (hhi : Lst w ha hl hc hi) (hst : Lst w ta tl tc st) (h : Lsts w A len xss) (hcap : len ≤ cap) (hz : ∀ d ∈ xss, sizeE d = 0) (hk : 3 ≤ k ∧ k ≤ 8) (hn : 1 ≤ len) (hlen : len ≤ 1048576) (b0 : el ≤ 1048576) (b1 : pl ≤ 1048576) (b2 : ll ≤ 1048576) (b3 : hl ≤ 1048576) (b4 : tl ≤ 1048576) :
    Calls Try.prog 19 #[.agg #[.int .i64 k, .slice ea el ec, .slice pa pl pc, .slice la ll lc, .slice ha hl hc, .slice ta tl tc, .int .i64 x], .slice A len cap] w fun e w' => OutP e w' (sameP xss) ∧ Below w.heap.size w w' := by
  have zz := And.intro hcap (And.intro hlen (And.intro hn (And.intro b0 (And.intro b1 (And.intro b2 (And.intro b3 b4))))))
  clear zz
  have HE := hide he
  have HP := hide hp
  have HLO := hide hlo
  have HHI := hide hhi
  have HST := hide hst
  have H := hide h
  have HN := hide h.1
  have HZ := hide hz
  have HB1 := hide ((Below.refl w.heap.size w).alloc (Nat.le_refl _) (.cells #[.int .i64 k, .slice ea el ec, .slice pa pl pc, .slice la ll lc, .slice ha hl hc, .slice ta tl tc, .int .i64 x] 24))
  have HOP := hide (OpAt.new w k (.slice ea el ec) (.slice pa pl pc) (.slice la ll lc) (.slice ha hl hc) (.slice ta tl tc) x)
  obtain ⟨o0, o1, o2, o3, o4, o5, o6⟩ := HOP.out.cells
  obtain ⟨b, off, rfl, hc⟩ := h.at (by omega)
  obtain ⟨X0, m0, c0, hc0, hl0⟩ := hc 0 (by omega)
  have hc0' : w.cell? ⟨b, off, none⟩ = some (.slice X0 m0 c0) := hc0
  obtain ⟨ds, hds⟩ : ∃ ds, ds = xss[0]?.getD [] := ⟨_, rfl⟩
  rw [← hds] at hl0
  have HL0 := hide hl0
  have HC0 := hide hc0'
  have hzd : sizeE ds = 0 := by rw [hds]; exact hz _ (mem_getDL xss 0 (by rw [h.1]; omega))
  have HZD := hide hzd
  have h06 : m0 ≤ 6 := by have := (sizeE_ok hzd).1; have := hl0.1.1; omega
  have HD1 := hide (HL0.out.below HB1.out)
  have q0 := (HB1.out.cell (p := ⟨b, off, none⟩) (lt_of_cell hc0')).trans hc0'
  have i0 : (0 : Int) < (len : Int) := by omega
  clear h he hp hlo hhi hst hz hc0 hc0' hl0 hzd
  have H6 : Hid ((xss[0]?.getD []).length ≤ 6) := by rw [Hid, ← hds]; exact (sizeE_ok HZD.out).1
  have hk' : k = 3 ∨ k = 4 ∨ k = 5 ∨ k = 6 ∨ k = 7 ∨ k = 8 := by omega
  clear hk
  clear hc hds
  rcases hk' with rfl | rfl | rfl | rfl | rfl | rfl
  all_goals go_enter Try.func19, Try.ntmps19
  all_goals go_wp2_with (go_at_call 39; refine (sameDims_any _ _ _ xss _ (H.out.below HB1.out) hn H6.out).mono ?_; rintro e w1 ⟨⟨Z, nz, cz, rfl, hi1, hnc⟩, hb⟩; have HI1 := hide hi1; have HB2 := hide (Below.on HB1.out hb); clear hi1 hb)
  all_goals go_ret2
  all_goals exact ⟨⟨_, _, _, rfl, HI1.out, hnc⟩, HB2.out⟩

set_option maxRecDepth 100000 in
set_option maxHeartbeats 2000000 in
theorem ruled_same (k x : Int) (ea : Option Addr) (el ec : Nat) (es : List Int) (pa : Option Addr) (pl pc : Nat) (ps : List Int) (la : Option Addr) (ll lc : Nat) (lo : List Int) (ha : Option Addr) (hl hc : Nat) (hi : List Int) (ta : Option Addr) (tl tc : Nat) (st : List Int) (A : Option Addr) (len cap : Nat) (xss : List (List Int)) (w : World)
    (he : Lst w ea el ec es) (hp : Lst w pa pl pc ps) (hlo : Lst w la ll lc lo) (hhi : Lst w ha hl hc hi) (hst : Lst w ta tl tc st) (h : Lsts w A len xss) (hcap : len ≤ cap) (hz : ∀ d ∈ xss, sizeE d = 0) (hk : 3 ≤ k ∧ k ≤ 8) (hn : 1 ≤ len) (hlen : len ≤ 1048576) (b0 : el ≤ 1048576) (b1 : pl ≤ 1048576) (b2 : ll ≤ 1048576) (b3 : hl ≤ 1048576) (b4 : tl ≤ 1048576) :
    Calls Try.prog 22 #[.agg #[.int .i64 k, .slice ea el ec, .slice pa pl pc, .slice la ll lc, .slice ha hl hc, .slice ta tl tc, .int .i64 x], .slice A len cap] w fun e w' => OutP e w' (sameP xss) ∧ Below w.heap.size w w' := by
  have zz := And.intro hcap (And.intro hlen (And.intro hn (And.intro b0 (And.intro b1 (And.intro b2 (And.intro b3 b4))))))
  clear zz
  have HE := hide he
  have HP := hide hp
  have HLO := hide hlo
  have HHI := hide hhi
  have HST := hide hst
  have H := hide h
  have HN := hide h.1
  have HZ := hide hz
  have HB1 := hide ((Below.refl w.heap.size w).alloc (Nat.le_refl _) (.cells #[.int .i64 k, .slice ea el ec, .slice pa pl pc, .slice la ll lc, .slice ha hl hc, .slice ta tl tc, .int .i64 x] 24))
  have HOP := hide (OpAt.new w k (.slice ea el ec) (.slice pa pl pc) (.slice la ll lc) (.slice ha hl hc) (.slice ta tl tc) x)
  obtain ⟨o0, o1, o2, o3, o4, o5, o6⟩ := HOP.out.cells
  obtain ⟨b, off, rfl, hc⟩ := h.at (by omega)
  obtain ⟨X0, m0, c0, hc0, hl0⟩ := hc 0 (by omega)
  have hc0' : w.cell? ⟨b, off, none⟩ = some (.slice X0 m0 c0) := hc0
  obtain ⟨ds, hds⟩ : ∃ ds, ds = xss[0]?.getD [] := ⟨_, rfl⟩
  rw [← hds] at hl0
  have HL0 := hide hl0
  have HC0 := hide hc0'
  have hzd : sizeE ds = 0 := by rw [hds]; exact hz _ (mem_getDL xss 0 (by rw [h.1]; omega))
  have HZD := hide hzd
  have h06 : m0 ≤ 6 := by have := (sizeE_ok hzd).1; have := hl0.1.1; omega
  have HD1 := hide (HL0.out.below HB1.out)
  have q0 := (HB1.out.cell (p := ⟨b, off, none⟩) (lt_of_cell hc0')).trans hc0'
  have i0 : (0 : Int) < (len : Int) := by omega
  clear h he hp hlo hhi hst hz hc0 hc0' hl0 hzd
  have HC := hide hc
  have HDS := hide hds
  have hk' : k = 3 ∨ k = 4 ∨ k = 5 ∨ k = 6 ∨ k = 7 ∨ k = 8 := by omega
  clear hk
  clear hc hds
  rcases hk' with rfl | rfl | rfl | rfl | rfl | rfl
  all_goals go_enter Try.func22, Try.ntmps22
  all_goals go_wp2
  all_goals go_loopw [27] (fun i wr => ∃ j : Nat, j ≤ len ∧ i = .int .i64 j ∧ (∀ t, t < j → xss[t]?.getD [] = xss[0]?.getD []) ∧ Below w.heap.size w wr) (fun i _ => len - (intOf i).toNat)
  all_goals try (case atStart => exact ⟨0, Nat.zero_le _, rfl, fun j hj => by omega, HB1.out⟩)
  all_goals
    obtain ⟨j, hj, rfl, hsame, hB⟩ := hrel
    have HS := hide hsame
    have HB := hide hB
    clear hsame hB q0
    have k0 : wr.cell? ⟨b, off, none⟩ = some (.slice X0 m0 c0) := (HB.out.cell (p := ⟨b, off, none⟩) (lt_of_cell HC0.out)).trans HC0.out
    by_cases hlt : j < len
    · obtain ⟨X, m, c, hcj0, hlj⟩ := HC.out j hlt
      have hcj : wr.cell? ⟨b, off + j, none⟩ = some (.slice X m c) := (HB.out.cell (p := ⟨b, off + j, none⟩) (lt_of_cell hcj0)).trans hcj0
      have HLJ := hide hlj
      clear hlj hcj0
      by_cases q : xss[j]?.getD [] = ds
      · have Q : Hid (decide (xss[j]?.getD [] = ds) = true) := decide_eq_true q
        have Q' := hide q
        clear q
        go_wp2_with (go_at_call 7; refine (sameList_any _ _ _ (xss[j]?.getD []) _ _ _ ds _ (HLJ.out.1.below HB.out) (HL0.out.1.below HB.out)).mono ?_; rintro e w1 ⟨rfl, n1, hw1⟩; rw [Q.out]; have HB2 := hide (Below.on HB.out (hw1 ▸ below_drewN _ n1)); clear hw1)
        go_roundw
        case rel =>
          refine ⟨j + 1, by omega, by go_num, fun t ht => ?_, HB2.out⟩
          by_cases e : t = j
          · rw [e, ← HDS.out]; exact Q'.out
          · exact HS.out t (by omega)
        case measure => simp [intOf]; omega
      · have Q : Hid (decide (xss[j]?.getD [] = ds) = false) := decide_eq_false q
        have Q' := hide q
        clear q
        go_wp2_with (go_at_call 7; refine (sameList_any _ _ _ (xss[j]?.getD []) _ _ _ ds _ (HLJ.out.1.below HB.out) (HL0.out.1.below HB.out)).mono ?_; rintro e w1 ⟨rfl, n1, hw1⟩; rw [Q.out]; have HB2 := hide (Below.on HB.out (hw1 ▸ below_drewN _ n1)); clear hw1)
        go_ret2
        have hp : sameP xss = ([], 6) := by
          unfold sameP
          rw [if_neg]
          intro hs
          exact Q'.out (((sameB_iff xss).1 hs j (by rw [HN.out]; exact hlt)).trans HDS.out.symm)
        rw [hp]
        exact ⟨outP_none _ _, HB2.out⟩
    · obtain rfl : j = len := by omega
      go_wp2
      go_ret2
      have hp : sameP xss = (ds, 0) := by
        unfold sameP
        rw [if_pos, ← HDS.out]
        exact (sameB_iff xss).2 (fun t ht => HS.out t (by rw [HN.out] at ht; exact ht))
      rw [hp]
      exact ⟨outP_lst (HL0.out.below HB.out) 0, HB.out⟩
end Go.Proofs.Ytganhongfkcdmaa.V
