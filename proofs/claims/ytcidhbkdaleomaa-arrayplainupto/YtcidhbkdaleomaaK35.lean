/-
  Contract: array.Weight. Contract: adjointref2.Weight.
-/
import Derived.Test.YtcidhbkdaleomaaK32
import Derived.Test.YtcidhbkdaleomaaK34
namespace Go.Proofs.Ytcidhbkdaleomaa.V
set_option maxRecDepth 20000
open Go.RowKit

/-- What an operation costs that makes L. -/
def wtV (k : Int) (ps : List Int) (xss : List (List Int)) (L : List Int) : Int :=
  IntKind.i64.wrap (prod L + tot 0 xss + (if k = 16 then 2 * prod L * prod (taken (xss[0]?.getD []) ps) else if k = 17 then prod L * xss.length else 0))
def weightP (k : Int) (es ps lo hi st : List Int) (xss : List (List Int)) : Int × Int :=
  if (dimsP k es ps lo hi st xss).2 ≠ 0 then (0, (dimsP k es ps lo hi st xss).2) else (wtV k ps xss (dimsP k es ps lo hi st xss).1, 0)
theorem dims_ok {k : Int} {es ps lo hi st : List Int} {xss : List (List Int)} (h : (dimsP k es ps lo hi st xss).2 = 0) :
    takesE k xss.length = 0 ∧ (∀ d ∈ xss, sizeE d = 0) ∧ sizeE (dimsP k es ps lo hi st xss).1 = 0 ∧ (k = 16 → dotB ps st lo hi (xss[0]?.getD []) (xss[1]?.getD []) = true) := by
  unfold dimsP at h ⊢
  by_cases c1 : takesE k xss.length ≠ 0
  · rw [if_pos c1] at h; exact absurd h c1
  rw [if_neg c1] at h ⊢
  by_cases c2 : sizesE xss ≠ 0
  · rw [if_pos c2] at h; exact absurd h c2
  rw [if_neg c2] at h ⊢
  by_cases c3 : (shapeP k es ps lo hi st xss).2 ≠ 0
  · rw [if_pos c3] at h; exact absurd h c3
  rw [if_neg c3] at h ⊢
  by_cases c4 : sizeE (shapeP k es ps lo hi st xss).1 ≠ 0
  · rw [if_pos c4] at h; exact absurd h c4
  rw [if_neg c4]
  refine ⟨Decidable.not_not.1 c1, sizesE_ok xss (Decidable.not_not.1 c2), Decidable.not_not.1 c4, fun hk => ?_⟩
  subst hk
  have e : shapeP 16 es ps lo hi st xss = dotP ps st lo hi (xss[0]?.getD []) (xss[1]?.getD []) := by simp [shapeP]
  rw [e] at c3
  unfold dotP at c3
  cases hd : dotB ps st lo hi (xss[0]?.getD []) (xss[1]?.getD []) with
  | true => rfl
  | false => rw [hd] at c3; simp at c3
theorem dot_in {ps st lo hi a b : List Int} (h : dotB ps st lo hi a b = true) : (∀ y ∈ ps, 0 ≤ y ∧ y < a.length) ∧ ps.length ≤ a.length := by
  unfold dotB at h
  simp only [Bool.and_eq_true] at h
  have h1 := once_iff.1 ((onceB_iff _ _).1 h.1)
  have h2 := once_len ((onceB_iff _ _).1 h.1)
  refine ⟨fun y hy => h1.1 y (List.mem_append.2 (.inr hy)), ?_⟩
  rw [List.length_append] at h2
  omega
theorem size_lo {xs : List Int} (h : sizeE xs = 0) : 0 ≤ prod xs ∧ prod xs ≤ 65536 := by
  obtain ⟨z1, z2, z3, z4⟩ := sizeE_ok h
  by_cases c : ∀ x ∈ xs, 1 ≤ x
  · exact ⟨by have := prod_pos xs c; omega, (z3 c).1⟩
  · have : (0 : Int) ∈ xs := by
      simp only [Classical.not_forall] at c
      obtain ⟨x, hx, hn⟩ := c
      have := z2 x hx
      obtain rfl : x = 0 := by omega
      exact hx
    rw [prod_zero this]
    exact ⟨by omega, by omega⟩

set_option maxRecDepth 100000 in
set_option maxHeartbeats 4000000 in
theorem Weight_any (k x : Int) (ea : Option Addr) (el ec : Nat) (es : List Int) (pa : Option Addr) (pl pc : Nat) (ps : List Int) (la : Option Addr) (ll lc : Nat) (lo : List Int) (ha : Option Addr) (hl hc : Nat) (hi : List Int) (ta : Option Addr) (tl tc : Nat) (st : List Int) (A : Option Addr) (len cap : Nat) (xss : List (List Int)) (w : World)
    (he : Lst w ea el ec es) (hp : Lst w pa pl pc ps) (hlo : Lst w la ll lc lo) (hhi : Lst w ha hl hc hi) (hst : Lst w ta tl tc st) (h : Lsts w A len xss) (hcap : len ≤ cap) (hlen : len ≤ 1048576) (b0 : el ≤ 1048576) (b1 : pl ≤ 1048576) (b2 : ll ≤ 1048576) (b3 : hl ≤ 1048576) (b4 : tl ≤ 1048576) :
    Calls Try.prog 12 #[.agg #[.int .i64 k, .slice ea el ec, .slice pa pl pc, .slice la ll lc, .slice ha hl hc, .slice ta tl tc, .int .i64 x], .slice A len cap] w fun e w' => e = .returned (.tuple #[.int .i64 (weightP k es ps lo hi st xss).1, .int .i64 (weightP k es ps lo hi st xss).2]) ∧ Below w.heap.size w w' := by
  have hmx := h.2.1
  have HB1 := hide ((Below.refl w.heap.size w).alloc (Nat.le_refl _) (.cells #[.int .i64 k, .slice ea el ec, .slice pa pl pc, .slice la ll lc, .slice ha hl hc, .slice ta tl tc, .int .i64 x] 24))
  have HOP := hide (OpAt.new w k (.slice ea el ec) (.slice pa pl pc) (.slice la ll lc) (.slice ha hl hc) (.slice ta tl tc) x)
  have HW := hide (show weightP k es ps lo hi st xss = if (dimsP k es ps lo hi st xss).2 ≠ 0 then (0, (dimsP k es ps lo hi st xss).2) else (wtV k ps xss (dimsP k es ps lo hi st xss).1, 0) from rfl)
  have HK := hide (@dims_ok k es ps lo hi st xss)
  have HC := hide (Dims_any k x ea el ec es pa pl pc ps la ll lc lo ha hl hc hi ta tl tc st A len cap xss (w.alloc (.cells #[.int .i64 k, .slice ea el ec, .slice pa pl pc, .slice la ll lc, .slice ha hl hc, .slice ta tl tc, .int .i64 x] 24)) (he.below HB1.out) (hp.below HB1.out) (hlo.below HB1.out) (hhi.below HB1.out) (hst.below HB1.out) (h.below HB1.out) hcap hlen b0 b1 b2 b3 b4)
  obtain ⟨⟨L, E⟩, hLE⟩ : ∃ r, r = dimsP k es ps lo hi st xss := ⟨_, rfl⟩
  rw [← hLE] at HW HK HC
  have H := hide h
  have HN := hide h.1
  have HP := hide hp
  obtain ⟨o0, o1, o2, o3, o4, o5, o6⟩ := HOP.out.cells
  clear h he hp hlo hhi hst hLE
  by_cases c1 : E = 0
  case neg =>
    have hw : weightP k es ps lo hi st xss = (0, E) := by rw [HW.out, if_pos c1]
    rw [hw]
    have q : (E != 0) = true := by simp [c1]
    clear hw c1 HK
    go_enter Try.func12, Try.ntmps12
    go_wp2_with (go_at_call 7; refine HC.out.mono ?_; rintro e w1 ⟨⟨Z, nz, cz, rfl, hi1, hnc⟩, hb⟩; have HB2 := hide (Below.on HB1.out hb); clear hi1 hb)
    go_ret2
    exact ⟨rfl, HB2.out⟩
  subst c1
  obtain ⟨k1, k2, k3, k4⟩ := HK.out rfl
  have hw : weightP k es ps lo hi st xss = (wtV k ps xss L, 0) := by rw [HW.out, if_neg (by simp)]
  rw [hw]
  have HZ := hide k2
  have HZL : Hid (sizeE L = 0) := k3
  have HDB := hide k4
  obtain ⟨M, hM⟩ : ∃ M, M = prod L := ⟨_, rfl⟩
  have hM2 := size_lo k3
  rw [← hM] at hM2
  have HM := hide hM
  have HM2 := hide hM2
  have HWV : Hid (wtV k ps xss L = IntKind.i64.wrap (M + tot 0 xss + (if k = 16 then 2 * M * prod (taken (xss[0]?.getD []) ps) else if k = 17 then M * xss.length else 0))) := by rw [Hid, wtV, hM]
  have HKT := hide (takes_ok k1)
  have hlt2 : k = 16 → len = 2 := fun e => by have := HKT.out; rw [HN.out] at this; omega
  have HL2 := hide hlt2
  clear hw k1 k2 k3 k4 HK HW hM hM2 hlt2
  go_enter Try.func12, Try.ntmps12
  go_wp2_with (first
    | (go_at_call 7; refine HC.out.mono ?_; rintro e w1 ⟨⟨Z, nz, cz, rfl, hi1, hnc⟩, hb⟩; have HI1 : Hid (Ints w1 Z nz L) := hi1; have HB2 := hide (Below.on HB1.out hb); have HO2 := hide (HOP.out.below hb); clear hi1 hb o0 o1 o2 o3 o4 o5 o6; obtain ⟨o0, o1, o2, o3, o4, o5, o6⟩ := HO2.out.cells)
    | (go_at_call 32; refine (count_any _ _ _ L _ HI1.out (count_ok HZL.out)).mono ?_; rintro e w' ⟨rfl, hw'⟩; obtain rfl := hw'.symm; rw [← HM.out]))
  go_loop [9, 26] (fun s i => ∃ (j : Nat) (T : Int), j ≤ len ∧ i = .int .i64 j ∧ s = .int .i64 T ∧ T = IntKind.i64.wrap (M + tot 0 (xss.take j))) (fun _ i => len - (intOf i).toNat)
  case atStart => exact ⟨0, M, Nat.zero_le _, rfl, rfl, by have := HM2.out; simp only [List.take_zero, tot, Int.add_zero]; rw [wrap_in _ (by omega) (by omega)]⟩
  case round =>
    obtain ⟨j, T, hj, rfl, rfl, hT⟩ := hrel
    have HT := hide hT
    clear hT
    by_cases hlt : j < len
    · obtain ⟨b, off, rfl, hc⟩ := H.out.at (by omega)
      obtain ⟨X, m, c, hcj0, hlj⟩ := hc j hlt
      have hcj : w1.cell? ⟨b, off + j, none⟩ = some (.slice X m c) := (HB2.out.cell (p := ⟨b, off + j, none⟩) (lt_of_cell hcj0)).trans hcj0
      have HLJ := hide (hlj.below HB2.out)
      have HZJ := hide (HZ.out _ (mem_getDL xss j (by rw [HN.out]; exact hlt)))
      have HTS := hide (tot_take_succ 0 xss j (by rw [HN.out]; exact hlt))
      obtain ⟨D, hD⟩ : ∃ D, D = prod (xss[j]?.getD []) := ⟨_, rfl⟩
      have HD := hide hD
      clear hlj hcj0 hc hD o0 o1 o2 o3 o4 o5 o6
      go_wp2_with (go_at_call 32; refine (count_any _ _ _ (xss[j]?.getD []) _ HLJ.out.1 (count_ok HZJ.out)).mono ?_; rintro e w' ⟨rfl, hw'⟩; obtain rfl := hw'.symm; rw [← HD.out])
      go_round
      case rel => exact ⟨j + 1, _, by omega, by go_num, rfl, by rw [HTS.out, HT.out, w64, wrap_addl, HD.out]; congr 1; omega⟩
      case measure => simp [intOf]; omega
    · obtain rfl : j = len := by omega
      have HT2 : Hid (T = IntKind.i64.wrap (M + tot 0 xss)) := by
        have := HT.out
        rw [List.take_of_length_le (by rw [HN.out]; exact Nat.le_refl _)] at this
        exact this
      clear HT
      by_cases c16 : k = 16
      · subst c16
        have hl2 := HL2.out rfl
        obtain ⟨b, off, rfl, hc⟩ := H.out.at (by omega)
        obtain ⟨X0, m0, c0, hc0, hl0⟩ := hc 0 (by omega)
        have hc0' : w.cell? ⟨b, off, none⟩ = some (.slice X0 m0 c0) := hc0
        obtain ⟨ds, hds⟩ : ∃ ds, ds = xss[0]?.getD [] := ⟨_, rfl⟩
        have HDI := hide (dot_in (HDB.out rfl))
        have hzd : sizeE ds = 0 := by rw [hds]; exact HZ.out _ (mem_getDL xss 0 (by rw [HN.out]; omega))
        rw [← hds] at hl0 HWV HDI
        have HL0 := hide (hl0.below HB2.out)
        have h06 : m0 ≤ 6 := by have := (sizeE_ok hzd).1; have := hl0.1.1; omega
        have q0 : w1.cell? ⟨b, off, none⟩ = some (.slice X0 m0 c0) := (HB2.out.cell (p := ⟨b, off, none⟩) (lt_of_cell hc0')).trans hc0'
        have HM0 := hide hl0.1.1
        have hp6 : pl ≤ 6 := by have := HDI.out.2; have := HP.out.1.1; have := HM0.out; omega
        have HIN : Hid (∀ y ∈ ps, 0 ≤ y ∧ y < (m0 : Int)) := fun y hy => by have := HDI.out.1 y hy; have := HM0.out; omega
        have HP2 := hide (HP.out.below HB2.out)
        have i0 : (0 : Int) < (j : Int) := by omega
        clear hc hc0 hc0' hl0 hds hzd HM0
        go_wp2_with fail
        go_region_with (first
          | (go_at_call 33; refine (these_any _ _ _ ds _ _ _ ps _ (HL0.out.below ((Below.refl _ _).drew)).1 (HP2.out.below ((Below.refl _ _).drew)).1 HIN.out hp6).mono ?_; rintro e w2 ⟨⟨v2, rfl, X2, n2, d2, rfl, hl2', _⟩, hb⟩; have HL2' := hide hl2'; have HB3 := hide (Below.on HB2.out.drew hb); clear hl2' hb)
          | (go_at_call 32; refine (count_wrap _ _ _ (taken ds ps) _ HL2'.out.1).mono ?_; rintro e w' ⟨rfl, hw'⟩; obtain rfl := hw'.symm))
        all_goals go_wp2
        all_goals go_ret2
        all_goals refine ⟨?_, HB3.out⟩
        all_goals rw [HWV.out, HT2.out]
        all_goals simp only [if_true, w64, wrap_addl, wrap_addr, wrap_mull, wrap_mulr]
        all_goals rfl
      by_cases c17 : k = 17
      · subst c17
        have e17 : xss.length = j := HN.out
        have HNN := hide e17
        clear e17
        go_wp2
        go_ret2
        refine ⟨?_, HB2.out⟩
        rw [HWV.out, HT2.out, HNN.out]
        simp [w64, wrap_addl, wrap_addr]
      · have q16 : (k == 16) = false := by simpa using c16
        have q17 : (k == 17) = false := by simpa using c17
        have HWX : Hid (wtV k ps xss L = T) := by rw [Hid, HWV.out, HT2.out, if_neg c16, if_neg c17, Int.add_zero]
        clear c16 c17
        go_wp2
        go_ret2
        rw [HWX.out]
        exact ⟨rfl, HB2.out⟩
end Go.Proofs.Ytcidhbkdaleomaa.V
namespace Go.Proofs.Ytcidhbkdaleomaa.V
set_option maxRecDepth 20000
open Go.RowKit

/-- The dimensions that are made, or [0], if one that is summed is 0. -/
def dz (L T : List Int) (j : Nat) : List Int := if (0 : Int) ∈ T.take j then [0] else L
theorem dz_succ {L T : List Int} {j : Nat} (hj : j < T.length) : dz L T (j + 1) = if T[j]?.getD 0 = 0 then [0] else dz L T j := by
  have e : T.take (j + 1) = T.take j ++ [T[j]?.getD 0] := by
    rw [List.take_add_one]
    congr 1
    simp [hj]
  unfold dz
  rw [e]
  by_cases c : T[j]?.getD 0 = 0
  · rw [if_pos c, if_pos (by rw [c]; simp)]
  · rw [if_neg c]
    have : ((0 : Int) ∈ T.take j ++ [T[j]?.getD 0]) ↔ (0 : Int) ∈ T.take j := by
      rw [List.mem_append, List.mem_singleton]
      exact ⟨fun h => h.resolve_right (fun e => c e.symm), .inl⟩
    simp only [this]
/-- What is made, or 0. -/
def nz0 (M : Int) (T : List Int) : Int := if (0 : Int) ∈ T then 0 else M
theorem nz0_size {L T : List Int} {j : Nat} (h : sizeE L = 0) (hj : T.length ≤ j) : sizeN (dz L T j) = nz0 (prod L) T := by
  unfold dz nz0
  rw [List.take_of_length_le hj]
  by_cases c : (0 : Int) ∈ T
  · rw [if_pos c, if_pos c]; rfl
  · rw [if_neg c, if_neg c, size_prod h]
theorem nz0_mul (M : Int) (T : List Int) : nz0 M T * prod T = M * prod T := by
  unfold nz0
  by_cases c : (0 : Int) ∈ T
  · rw [if_pos c, prod_zero c]; simp
  · rw [if_neg c]
theorem nz0_bd {M : Int} (T : List Int) (h : 0 ≤ M ∧ M ≤ 65536) : 0 ≤ nz0 M T ∧ nz0 M T ≤ 65536 := by
  unfold nz0
  by_cases c : (0 : Int) ∈ T
  · rw [if_pos c]; omega
  · rw [if_neg c]; exact h

set_option maxRecDepth 100000 in
set_option maxHeartbeats 4000000 in
theorem rWeight_any (k x : Int) (ea : Option Addr) (el ec : Nat) (es : List Int) (pa : Option Addr) (pl pc : Nat) (ps : List Int) (la : Option Addr) (ll lc : Nat) (lo : List Int) (ha : Option Addr) (hl hc : Nat) (hi : List Int) (ta : Option Addr) (tl tc : Nat) (st : List Int) (A : Option Addr) (len cap : Nat) (xss : List (List Int)) (w : World)
    (he : Lst w ea el ec es) (hp : Lst w pa pl pc ps) (hlo : Lst w la ll lc lo) (hhi : Lst w ha hl hc hi) (hst : Lst w ta tl tc st) (h : Lsts w A len xss) (hcap : len ≤ cap) (hlen : len ≤ 1048576) (b0 : el ≤ 1048576) (b1 : pl ≤ 1048576) (b2 : ll ≤ 1048576) (b3 : hl ≤ 1048576) (b4 : tl ≤ 1048576) :
    Calls Try.prog 13 #[.agg #[.int .i64 k, .slice ea el ec, .slice pa pl pc, .slice la ll lc, .slice ha hl hc, .slice ta tl tc, .int .i64 x], .slice A len cap] w fun e w' => e = .returned (.tuple #[.int .i64 (weightP k es ps lo hi st xss).1, .int .i64 (weightP k es ps lo hi st xss).2]) ∧ Below w.heap.size w w' := by
  have hmx := h.2.1
  have HB1 := hide ((Below.refl w.heap.size w).alloc (Nat.le_refl _) (.cells #[.int .i64 k, .slice ea el ec, .slice pa pl pc, .slice la ll lc, .slice ha hl hc, .slice ta tl tc, .int .i64 x] 24))
  have HOP := hide (OpAt.new w k (.slice ea el ec) (.slice pa pl pc) (.slice la ll lc) (.slice ha hl hc) (.slice ta tl tc) x)
  have HW := hide (show weightP k es ps lo hi st xss = if (dimsP k es ps lo hi st xss).2 ≠ 0 then (0, (dimsP k es ps lo hi st xss).2) else (wtV k ps xss (dimsP k es ps lo hi st xss).1, 0) from rfl)
  have HK := hide (@dims_ok k es ps lo hi st xss)
  have HC := hide (rDims_any k x ea el ec es pa pl pc ps la ll lc lo ha hl hc hi ta tl tc st A len cap xss (w.alloc (.cells #[.int .i64 k, .slice ea el ec, .slice pa pl pc, .slice la ll lc, .slice ha hl hc, .slice ta tl tc, .int .i64 x] 24)) (he.below HB1.out) (hp.below HB1.out) (hlo.below HB1.out) (hhi.below HB1.out) (hst.below HB1.out) (h.below HB1.out) hcap hlen b0 b1 b2 b3 b4)
  obtain ⟨⟨L, E⟩, hLE⟩ : ∃ r, r = dimsP k es ps lo hi st xss := ⟨_, rfl⟩
  rw [← hLE] at HW HK HC
  have H := hide h
  have HN := hide h.1
  have HP := hide hp
  obtain ⟨o0, o1, o2, o3, o4, o5, o6⟩ := HOP.out.cells
  clear h he hp hlo hhi hst hLE
  by_cases c1 : E = 0
  case neg =>
    have hw : weightP k es ps lo hi st xss = (0, E) := by rw [HW.out, if_pos c1]
    rw [hw]
    have q : (E != 0) = true := by simp [c1]
    clear hw c1 HK
    go_enter Try.func13, Try.ntmps13
    go_wp2_with (go_at_call 8; refine HC.out.mono ?_; rintro e w1 ⟨⟨Z, nz, cz, rfl, hi1, hnc⟩, hb⟩; have HB2 := hide (Below.on HB1.out hb); clear hi1 hb)
    go_ret2
    exact ⟨rfl, HB2.out⟩
  subst c1
  obtain ⟨k1, k2, k3, k4⟩ := HK.out rfl
  have hw : weightP k es ps lo hi st xss = (wtV k ps xss L, 0) := by rw [HW.out, if_neg (by simp)]
  rw [hw]
  have HZ := hide k2
  have HZL : Hid (sizeE L = 0) := k3
  have HDB := hide k4
  obtain ⟨M, hM⟩ : ∃ M, M = prod L := ⟨_, rfl⟩
  have hM2 := size_lo k3
  rw [← hM] at hM2
  have HM := hide hM
  have HM2 := hide hM2
  have HMS : Hid (sizeN L = M) := by rw [Hid, size_prod k3, hM]
  have HWV : Hid (wtV k ps xss L = IntKind.i64.wrap (M + tot 0 xss + (if k = 16 then 2 * M * prod (taken (xss[0]?.getD []) ps) else if k = 17 then M * xss.length else 0))) := by rw [Hid, wtV, hM]
  have HKT := hide (takes_ok k1)
  have hlt2 : k = 16 → len = 2 := fun e => by have := HKT.out; rw [HN.out] at this; omega
  have HL2 := hide hlt2
  clear hw k1 k2 k3 k4 HK HW hM hM2 hlt2
  by_cases c16 : k = 16
  · subst c16
    have hl2 := HL2.out rfl
    obtain ⟨b, off, rfl, hc⟩ := H.out.at (by omega)
    obtain ⟨X0, m0, c0, hc0, hl0⟩ := hc 0 (by omega)
    have hc0' : w.cell? ⟨b, off, none⟩ = some (.slice X0 m0 c0) := hc0
    obtain ⟨ds, hds⟩ : ∃ ds, ds = xss[0]?.getD [] := ⟨_, rfl⟩
    have HDI := hide (dot_in (HDB.out rfl))
    rw [← hds] at hl0 HWV HDI
    have HL0 := hide hl0
    have HC0 := hide hc0'
    have HM0 := hide hl0.1.1
    have HIN : Hid (∀ y ∈ ps, 0 ≤ y ∧ y < (m0 : Int)) := fun y hy => by have := HDI.out.1 y hy; have := HM0.out; omega
    have i0 : (0 : Int) < (len : Int) := by omega
    have hmp := HP.out.1.2.1
    obtain ⟨T, hT⟩ : ∃ T, T = taken ds ps := ⟨_, rfl⟩
    have HTT := hide hT
    have hTl : T.length = pl := by rw [hT, taken_length]; exact HP.out.1.1
    have HTL := hide hTl
    rw [← hT] at HWV
    clear hc hc0 hc0' hl0 hds hT hTl hl2
    go_enter Try.func13, Try.ntmps13
    go_wp2_with (first
      | (go_at_call 8; refine HC.out.mono ?_; rintro e w1 ⟨⟨Z, nz, cz, rfl, hi1, hnc⟩, hb⟩; have HI1 : Hid (Ints w1 Z nz L) := hi1; have HB2 := hide (Below.on HB1.out hb); have HO2 := hide (HOP.out.below hb); clear hi1 hb o0 o1 o2 o3 o4 o5 o6; obtain ⟨o0, o1, o2, o3, o4, o5, o6⟩ := HO2.out.cells)
      | (go_at_call 30; refine (rsize_any _ _ _ L _ HI1.out).mono ?_; rintro e w' ⟨rfl, hw'⟩; obtain rfl := hw'.symm; rw [HMS.out]))
    go_loopw [6, 41] (fun v i wr => ∃ (j : Nat) (X : Option Addr) (n c : Nat), j ≤ pl ∧ i = .int .i64 j ∧ v = .slice X n c ∧ Ints wr X n (dz L T j) ∧ OpAt wr w.heap.size 16 (.slice ea el ec) (.slice pa pl pc) (.slice la ll lc) (.slice ha hl hc) (.slice ta tl tc) x ∧ Below w.heap.size w wr) (fun _ i _ => pl - (intOf i).toNat)
    case atStart => exact ⟨0, Z, nz, cz, Nat.zero_le _, rfl, rfl, by simpa [dz] using HI1.out, HO2.out, HB2.out⟩
    case round =>
      obtain ⟨j, X, n, c, hj, rfl, rfl, hI, hO, hB⟩ := hrel
      have HI := hide hI
      have HO := hide hO
      have HB := hide hB
      clear hI hO hB o0 o1 o2 o3 o4 o5 o6
      by_cases hlt : j < pl
      · obtain ⟨b', off', rfl, hb', hc'⟩ := HP.out.1.at (by omega)
        have HKL : Hid (j < ps.length) := by rw [Hid, HP.out.1.1]; exact hlt
        have hy := HIN.out _ (mem_getD ps j HKL.out)
        obtain ⟨m, hm'⟩ : ∃ m : Nat, ps[j]?.getD 0 = (m : Int) := ⟨(ps[j]?.getD 0).toNat, by omega⟩
        have hml : m < m0 := by omega
        obtain ⟨bd, offd, rfl, hbd, hcd⟩ := HL0.out.1.at (by omega)
        have hcy : wr.cell? ⟨b', off' + j, none⟩ = some (.int .i64 (m : Int)) := by rw [← hm']; exact (HB.out.cell (p := ⟨b', off' + j, none⟩) hb').trans (hc' j hlt)
        have q0 : wr.cell? ⟨b, off, none⟩ = some (.slice (some ⟨bd, offd, none⟩) m0 c0) := (HB.out.cell (p := ⟨b, off, none⟩) (lt_of_cell HC0.out)).trans HC0.out
        have hcx : wr.cell? ⟨bd, offd + m, none⟩ = some (.int .i64 (ds[m]?.getD 0)) := (HB.out.cell (p := ⟨bd, offd + m, none⟩) hbd).trans (hcd m hml)
        have hTj : T[j]?.getD 0 = ds[m]?.getD 0 := by rw [HTT.out]; exact taken_getD ds ps j m HKL.out hm'
        obtain ⟨D, hD⟩ : ∃ D, D = ds[m]?.getD 0 := ⟨_, rfl⟩
        rw [← hD] at hcx hTj
        have HDZ := hide (dz_succ (L := L) (T := T) (j := j) (by rw [HTL.out]; exact hlt))
        rw [hTj] at HDZ
        have i1 : (0 : Int) ≤ (m : Int) := Int.natCast_nonneg _
        have i2 : (m : Int) < (m0 : Int) := by omega
        clear hc' hcd hy hm' hD hTj
        by_cases cD : D = 0
        · subst cD
          have HL1 := hide (lst_one wr 0 (by omega) 3)
          go_wp2
          go_roundw
          case rel => exact ⟨j + 1, _, _, _, by omega, by go_num, rfl, by rw [HDZ.out, if_pos rfl]; exact HL1.out.1, HO.out.alloc _, HB.out.alloc HB.out.size _⟩
          case measure => simp [intOf]; omega
        · have qD : (D == 0) = false := by simpa using cD
          have HDZ2 : Hid (dz L T (j + 1) = dz L T j) := by rw [Hid, HDZ.out, if_neg cD]
          clear cD HDZ
          go_wp2
          go_roundw
          case rel => exact ⟨j + 1, _, _, _, by omega, by go_num, rfl, by rw [HDZ2.out]; exact HI.out, HO.out, HB.out⟩
          case measure => simp [intOf]; omega
      · obtain rfl : j = pl := by omega
        obtain ⟨N0, hN0⟩ : ∃ N0, N0 = nz0 M T := ⟨_, rfl⟩
        have HN0 := hide hN0
        have HNZ : Hid (sizeN (dz L T j) = N0) := by rw [Hid, hN0, HM.out]; exact nz0_size HZL.out (by rw [HTL.out]; exact Nat.le_refl _)
        have HNB := hide (nz0_bd T HM2.out)
        rw [← hN0] at HNB
        clear hN0
        obtain ⟨o0, o1, o2, o3, o4, o5, o6⟩ := HO.out.cells
        go_wp2_with (go_at_call 30; refine (rsize_any _ _ _ (dz L T j) _ HI.out).mono ?_; rintro e w' ⟨rfl, hw'⟩; obtain rfl := hw'.symm; rw [HNZ.out])
        go_loop [12, 62] (fun s i => ∃ (t : Nat) (V : Int), t ≤ j ∧ i = .int .i64 t ∧ s = .int .i64 V ∧ V = IntKind.i64.wrap (N0 * prod (T.take t))) (fun _ i => j - (intOf i).toNat)
        case atStart => exact ⟨0, N0, Nat.zero_le _, rfl, rfl, by have := HNB.out; rw [List.take_zero, prod, Int.mul_one, wrap_in _ (by omega) (by omega)]⟩
        case round =>
          obtain ⟨t, V, ht, rfl, rfl, hV⟩ := hrel
          have HV := hide hV
          clear hV
          by_cases hlt2 : t < j
          · obtain ⟨b', off', rfl, hb', hc'⟩ := HP.out.1.at (by omega)
            have HKL : Hid (t < ps.length) := by rw [Hid, HP.out.1.1]; exact hlt2
            have hy := HIN.out _ (mem_getD ps t HKL.out)
            obtain ⟨m, hm'⟩ : ∃ m : Nat, ps[t]?.getD 0 = (m : Int) := ⟨(ps[t]?.getD 0).toNat, by omega⟩
            have hml : m < m0 := by omega
            obtain ⟨bd, offd, rfl, hbd, hcd⟩ := HL0.out.1.at (by omega)
            have hcy : wr.cell? ⟨b', off' + t, none⟩ = some (.int .i64 (m : Int)) := by rw [← hm']; exact (HB.out.cell (p := ⟨b', off' + t, none⟩) hb').trans (hc' t hlt2)
            have q0 : wr.cell? ⟨b, off, none⟩ = some (.slice (some ⟨bd, offd, none⟩) m0 c0) := (HB.out.cell (p := ⟨b, off, none⟩) (lt_of_cell HC0.out)).trans HC0.out
            have hcx : wr.cell? ⟨bd, offd + m, none⟩ = some (.int .i64 (ds[m]?.getD 0)) := (HB.out.cell (p := ⟨bd, offd + m, none⟩) hbd).trans (hcd m hml)
            have hTj : T[t]?.getD 0 = ds[m]?.getD 0 := by rw [HTT.out]; exact taken_getD ds ps t m HKL.out hm'
            obtain ⟨D, hD⟩ : ∃ D, D = ds[m]?.getD 0 := ⟨_, rfl⟩
            rw [← hD] at hcx hTj
            have HPS := hide (prod_take_succ T t (by rw [HTL.out]; exact hlt2))
            rw [hTj] at HPS
            have i1 : (0 : Int) ≤ (m : Int) := Int.natCast_nonneg _
            have i2 : (m : Int) < (m0 : Int) := by omega
            clear hc' hcd hy hm' hD hTj
            go_wp2
            go_round
            case rel => exact ⟨t + 1, _, by omega, by go_num, rfl, by rw [HPS.out, HV.out, w64, wrap_mull, Int.mul_assoc]⟩
            case measure => simp [intOf]; omega
          · obtain rfl : t = j := by omega
            have HV2 : Hid (V = IntKind.i64.wrap (M * prod T)) := by
              have := HV.out
              rw [List.take_of_length_le (by rw [HTL.out]; exact Nat.le_refl _), HN0.out, nz0_mul] at this
              exact this
            clear HV hlt hlt2
            have HX16 := hide o0
            go_wp2
            go_loop [8, 85] (fun s i => ∃ (j3 : Nat) (U : Int), j3 ≤ len ∧ i = .int .i64 j3 ∧ s = .int .i64 U ∧ U = IntKind.i64.wrap (M + 2 * (M * prod T) + tot (0) (xss.take j3))) (fun _ i => len - (intOf i).toNat)
            case atStart => exact ⟨0, _, Nat.zero_le _, rfl, rfl, by rw [HV2.out]; simp only [List.take_zero, tot, Int.add_zero, w64, wrap_addr, wrap_mulr]⟩
            case round =>
              obtain ⟨j3, U, hj3, rfl, rfl, hU⟩ := hrel
              have HU := hide hU
              clear hU
              by_cases hlt3 : j3 < len
              · obtain ⟨b3', off3, AE, hc3⟩ := H.out.at (by omega)
                cases AE
                obtain ⟨X, m, c, hcj0, hlj⟩ := hc3 j3 hlt3
                have hcj : wr.cell? ⟨b, off + j3, none⟩ = some (.slice X m c) := (HB.out.cell (p := ⟨b, off + j3, none⟩) (lt_of_cell hcj0)).trans hcj0
                have HLJ := hide (hlj.below HB.out)
                have HZJ := hide (HZ.out _ (mem_getDL xss j3 (by rw [HN.out]; exact hlt3)))
                have HTS := hide (tot_take_succ (0) xss j3 (by rw [HN.out]; exact hlt3))
                obtain ⟨D, hD⟩ : ∃ D, D = prod (xss[j3]?.getD []) := ⟨_, rfl⟩
                have HD := hide hD
                have HSD : Hid (sizeN (xss[j3]?.getD []) = D) := by rw [Hid, size_prod HZJ.out, hD]
                clear hlj hcj0 hc3 hD
                go_wp2_with (go_at_call 30; refine (rsize_any _ _ _ (xss[j3]?.getD []) _ HLJ.out.1).mono ?_; rintro e w' ⟨rfl, hw'⟩; obtain rfl := hw'.symm; rw [HSD.out])
                go_round
                case rel => exact ⟨j3 + 1, _, by omega, by go_num, rfl, by rw [HTS.out, HU.out, ← HD.out]; simp only [w64, wrap_addl]; congr 1; omega⟩
                case measure => simp [intOf]; omega
              · obtain rfl : j3 = len := by omega
                have HU2 : Hid (U = IntKind.i64.wrap (M + 2 * (M * prod T) + tot (0) xss)) := by
                  have := HU.out
                  rw [List.take_of_length_le (by rw [HN.out]; exact Nat.le_refl _)] at this
                  exact this
                clear HU
                go_wp2
                go_ret2
                refine ⟨?_, HB.out⟩
                rw [HWV.out, HU2.out]
                simp only [if_true]
                rw [Int.mul_assoc, show M + tot 0 xss + 2 * (M * prod T) = M + 2 * (M * prod T) + tot 0 xss by omega]
                rfl
  by_cases c17 : k = 17
  · subst c17
    go_enter Try.func13, Try.ntmps13
    go_wp2_with (first
      | (go_at_call 8; refine HC.out.mono ?_; rintro e w1 ⟨⟨Z, nz, cz, rfl, hi1, hnc⟩, hb⟩; have HI1 : Hid (Ints w1 Z nz L) := hi1; have HB2 := hide (Below.on HB1.out hb); have HO2 := hide (HOP.out.below hb); clear hi1 hb o0 o1 o2 o3 o4 o5 o6; obtain ⟨o0, o1, o2, o3, o4, o5, o6⟩ := HO2.out.cells)
      | (go_at_call 30; refine (rsize_any _ _ _ L _ HI1.out).mono ?_; rintro e w' ⟨rfl, hw'⟩; obtain rfl := hw'.symm; rw [HMS.out]))
    go_loop [8, 85] (fun s i => ∃ (j3 : Nat) (U : Int), j3 ≤ len ∧ i = .int .i64 j3 ∧ s = .int .i64 U ∧ U = IntKind.i64.wrap (M + tot (M) (xss.take j3))) (fun _ i => len - (intOf i).toNat)
    case atStart => exact ⟨0, _, Nat.zero_le _, rfl, rfl, by have := HM2.out; simp only [List.take_zero, tot, Int.add_zero]; rw [wrap_in _ (by omega) (by omega)]⟩
    case round =>
      obtain ⟨j3, U, hj3, rfl, rfl, hU⟩ := hrel
      have HU := hide hU
      clear hU
      by_cases hlt3 : j3 < len
      · obtain ⟨b3', off3, rfl, hc3⟩ := H.out.at (by omega)
        obtain ⟨X, m, c, hcj0, hlj⟩ := hc3 j3 hlt3
        have hcj : w1.cell? ⟨b3', off3 + j3, none⟩ = some (.slice X m c) := (HB2.out.cell (p := ⟨b3', off3 + j3, none⟩) (lt_of_cell hcj0)).trans hcj0
        have HLJ := hide (hlj.below HB2.out)
        have HZJ := hide (HZ.out _ (mem_getDL xss j3 (by rw [HN.out]; exact hlt3)))
        have HTS := hide (tot_take_succ (M) xss j3 (by rw [HN.out]; exact hlt3))
        obtain ⟨D, hD⟩ : ∃ D, D = prod (xss[j3]?.getD []) := ⟨_, rfl⟩
        have HD := hide hD
        have HSD : Hid (sizeN (xss[j3]?.getD []) = D) := by rw [Hid, size_prod HZJ.out, hD]
        clear hlj hcj0 hc3 hD
        go_wp2_with (go_at_call 30; refine (rsize_any _ _ _ (xss[j3]?.getD []) _ HLJ.out.1).mono ?_; rintro e w' ⟨rfl, hw'⟩; obtain rfl := hw'.symm; rw [HSD.out])
        go_round
        case rel => exact ⟨j3 + 1, _, by omega, by go_num, rfl, by rw [HTS.out, HU.out, ← HD.out]; simp only [w64, wrap_addl]; congr 1; omega⟩
        case measure => simp [intOf]; omega
      · obtain rfl : j3 = len := by omega
        have HU2 : Hid (U = IntKind.i64.wrap (M + tot (M) xss)) := by
          have := HU.out
          rw [List.take_of_length_le (by rw [HN.out]; exact Nat.le_refl _)] at this
          exact this
        clear HU
        go_wp2
        go_ret2
        refine ⟨?_, HB2.out⟩
        rw [HWV.out, HU2.out, tot_each M]; simp [Int.add_assoc]
  · have q16 : (k == 16) = false := by simpa using c16
    have q17 : (k == 17) = false := by simpa using c17
    have HWV2 : Hid (wtV k ps xss L = IntKind.i64.wrap (M + tot 0 xss)) := by rw [Hid, HWV.out, if_neg c16, if_neg c17, Int.add_zero]
    clear c16 c17
    go_enter Try.func13, Try.ntmps13
    go_wp2_with (first
      | (go_at_call 8; refine HC.out.mono ?_; rintro e w1 ⟨⟨Z, nz, cz, rfl, hi1, hnc⟩, hb⟩; have HI1 : Hid (Ints w1 Z nz L) := hi1; have HB2 := hide (Below.on HB1.out hb); have HO2 := hide (HOP.out.below hb); clear hi1 hb o0 o1 o2 o3 o4 o5 o6; obtain ⟨o0, o1, o2, o3, o4, o5, o6⟩ := HO2.out.cells)
      | (go_at_call 30; refine (rsize_any _ _ _ L _ HI1.out).mono ?_; rintro e w' ⟨rfl, hw'⟩; obtain rfl := hw'.symm; rw [HMS.out]))
    go_loop [8, 85] (fun s i => ∃ (j3 : Nat) (U : Int), j3 ≤ len ∧ i = .int .i64 j3 ∧ s = .int .i64 U ∧ U = IntKind.i64.wrap (M + tot (0) (xss.take j3))) (fun _ i => len - (intOf i).toNat)
    case atStart => exact ⟨0, _, Nat.zero_le _, rfl, rfl, by have := HM2.out; simp only [List.take_zero, tot, Int.add_zero]; rw [wrap_in _ (by omega) (by omega)]⟩
    case round =>
      obtain ⟨j3, U, hj3, rfl, rfl, hU⟩ := hrel
      have HU := hide hU
      clear hU
      by_cases hlt3 : j3 < len
      · obtain ⟨b3', off3, rfl, hc3⟩ := H.out.at (by omega)
        obtain ⟨X, m, c, hcj0, hlj⟩ := hc3 j3 hlt3
        have hcj : w1.cell? ⟨b3', off3 + j3, none⟩ = some (.slice X m c) := (HB2.out.cell (p := ⟨b3', off3 + j3, none⟩) (lt_of_cell hcj0)).trans hcj0
        have HLJ := hide (hlj.below HB2.out)
        have HZJ := hide (HZ.out _ (mem_getDL xss j3 (by rw [HN.out]; exact hlt3)))
        have HTS := hide (tot_take_succ (0) xss j3 (by rw [HN.out]; exact hlt3))
        obtain ⟨D, hD⟩ : ∃ D, D = prod (xss[j3]?.getD []) := ⟨_, rfl⟩
        have HD := hide hD
        have HSD : Hid (sizeN (xss[j3]?.getD []) = D) := by rw [Hid, size_prod HZJ.out, hD]
        clear hlj hcj0 hc3 hD
        go_wp2_with (go_at_call 30; refine (rsize_any _ _ _ (xss[j3]?.getD []) _ HLJ.out.1).mono ?_; rintro e w' ⟨rfl, hw'⟩; obtain rfl := hw'.symm; rw [HSD.out])
        go_round
        case rel => exact ⟨j3 + 1, _, by omega, by go_num, rfl, by rw [HTS.out, HU.out, ← HD.out]; simp only [w64, wrap_addl]; congr 1; omega⟩
        case measure => simp [intOf]; omega
      · obtain rfl : j3 = len := by omega
        have HU2 : Hid (U = IntKind.i64.wrap (M + tot (0) xss)) := by
          have := HU.out
          rw [List.take_of_length_le (by rw [HN.out]; exact Nat.le_refl _)] at this
          exact this
        clear HU
        go_wp2
        go_ret2
        refine ⟨?_, HB2.out⟩
        rw [HWV2.out, HU2.out]
        rfl
end Go.Proofs.Ytcidhbkdaleomaa.V
