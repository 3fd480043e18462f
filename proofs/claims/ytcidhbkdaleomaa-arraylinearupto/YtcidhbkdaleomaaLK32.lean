/-
  Contracts: array.Dims, adjointref2.Dims. ArrayDims: the walk of the law.
-/
import Derived.Test.YtcidhbkdaleomaaK26
import Derived.Test.YtcidhbkdaleomaaLK31
import Derived.Test.YtcidhbkdaleomaaK24
namespace Go.Proofs.Ytcidhbkdaleomaa.V
set_option maxRecDepth 20000
open Go.RowKit

/-- What the table says of an operation on dimensions. -/
def shapeP (k : Int) (es ps lo hi st : List Int) (xss : List (List Int)) : List Int × Int := if k = 2 then (es, 0) else if k = 9 then (okL (sprE 0 (xss[0]?.getD []) (stepsV (xss[0]?.getD [])) es ps) es, sprE 0 (xss[0]?.getD []) (stepsV (xss[0]?.getD [])) es ps) else if k = 10 then sumP (xss[0]?.getD []) ps else if k = 11 then (okL (turnE 0 (xss[0]?.getD []) (stepsV (xss[0]?.getD [])) ps) (taken (xss[0]?.getD []) ps), turnE 0 (xss[0]?.getD []) (stepsV (xss[0]?.getD [])) ps) else if k = 12 then reformP (xss[0]?.getD []) es else if k = 13 then (okL (cutE 0 (xss[0]?.getD []) (stepsV (xss[0]?.getD [])) lo hi st) (cutD (xss[0]?.getD []) lo hi st), cutE 0 (xss[0]?.getD []) (stepsV (xss[0]?.getD [])) lo hi st) else if k = 14 then padP (xss[0]?.getD []) lo hi st else if k = 15 then (okL (flipE 0 (xss[0]?.getD []) (stepsV (xss[0]?.getD [])) ps) (xss[0]?.getD []), flipE 0 (xss[0]?.getD []) (stepsV (xss[0]?.getD [])) ps) else if k = 16 then dotP ps st lo hi (xss[0]?.getD []) (xss[1]?.getD []) else if k = 17 then joinP ps xss else if k = 18 then takeP (xss[0]?.getD []) (xss[1]?.getD []) else if k = 19 then putP es (xss[0]?.getD []) (xss[1]?.getD []) else sameP xss
/-- What is wrong with the first list with which something is. -/
def sizesE : List (List Int) → Int
  | [] => 0
  | d :: r => if sizeE d = 0 then sizesE r else sizeE d
theorem sizesE_ok : ∀ xss : List (List Int), sizesE xss = 0 → ∀ d ∈ xss, sizeE d = 0
  | [], _, d, hd => by cases hd
  | x :: r, h, d, hd => by
    rw [sizesE] at h
    by_cases c : sizeE x = 0
    · rw [if_pos c] at h
      rcases List.mem_cons.1 hd with e | e
      · rw [e]; exact c
      · exact sizesE_ok r h d e
    · rw [if_neg c] at h; exact absurd h c
theorem sizesE_at : ∀ (xss : List (List Int)) (j : Nat), (∀ t, t < j → sizeE (xss[t]?.getD []) = 0) → j < xss.length → sizeE (xss[j]?.getD []) ≠ 0 → sizesE xss = sizeE (xss[j]?.getD [])
  | [], j, _, h, _ => by simp at h
  | x :: r, 0, _, _, hne => by
    have e : ((x :: r)[0]?.getD []) = x := by simp
    rw [e] at hne ⊢
    rw [sizesE, if_neg hne]
  | x :: r, j + 1, h0, hj, hne => by
    have c := h0 0 (by omega)
    have e : ((x :: r)[0]?.getD []) = x := by simp
    rw [e] at c
    have e2 : ((x :: r)[j + 1]?.getD []) = r[j]?.getD [] := by simp
    rw [e2] at hne ⊢
    rw [sizesE, if_pos c]
    refine sizesE_at r j (fun t ht => ?_) (by simpa using hj) hne
    have := h0 (t + 1) (by omega)
    simpa using this
theorem sizesE_all : ∀ (xss : List (List Int)), (∀ t, t < xss.length → sizeE (xss[t]?.getD []) = 0) → sizesE xss = 0
  | [], _ => rfl
  | x :: r, h => by
    have c := h 0 (by simp)
    have e : ((x :: r)[0]?.getD []) = x := by simp
    rw [e] at c
    rw [sizesE, if_pos c]
    refine sizesE_all r (fun t ht => ?_)
    have := h (t + 1) (by simpa using ht)
    simpa using this
/-- What Dims answers. -/
def dimsP (k : Int) (es ps lo hi st : List Int) (xss : List (List Int)) : List Int × Int :=
  if takesE k xss.length ≠ 0 then ([], takesE k xss.length)
  else if sizesE xss ≠ 0 then ([], sizesE xss)
  else if (shapeP k es ps lo hi st xss).2 ≠ 0 then ([], (shapeP k es ps lo hi st xss).2)
  else if sizeE (shapeP k es ps lo hi st xss).1 ≠ 0 then ([], sizeE (shapeP k es ps lo hi st xss).1)
  else ((shapeP k es ps lo hi st xss).1, 0)
theorem takes_ok {k : Int} {n : Nat} (h : takesE k n = 0) : (k = 2 ∧ n = 0) ∨ (9 ≤ k ∧ k ≤ 15 ∧ n = 1) ∨ ((k = 16 ∨ k = 18 ∨ k = 19) ∧ n = 2) ∨ (3 ≤ k ∧ k ≤ 8 ∧ 1 ≤ n) ∨ (k = 17 ∧ 1 ≤ n) := by
  unfold takesE at h
  by_cases c1 : k = 2
  · rw [if_pos c1] at h
    by_cases d : n = 0
    · exact .inl ⟨c1, d⟩
    · rw [if_neg d] at h; omega
  rw [if_neg c1] at h
  by_cases c2 : 9 ≤ k ∧ k ≤ 15
  · rw [if_pos c2] at h
    by_cases d : n = 1
    · exact .inr (.inl ⟨c2.1, c2.2, d⟩)
    · rw [if_neg d] at h; omega
  rw [if_neg c2] at h
  by_cases c3 : (3 ≤ k ∧ k ≤ 7) ∨ k = 16 ∨ k = 18 ∨ k = 19
  · rw [if_pos c3] at h
    by_cases d : n = 2
    · omega
    · rw [if_neg d] at h; omega
  rw [if_neg c3] at h
  by_cases c4 : k = 8
  · rw [if_pos c4] at h
    by_cases d : n = 3
    · omega
    · rw [if_neg d] at h; omega
  rw [if_neg c4] at h
  by_cases c5 : k = 17
  · rw [if_pos c5] at h
    by_cases d : n = 0
    · rw [if_pos d] at h; omega
    · omega
  rw [if_neg c5] at h; omega

theorem shape_any (k x : Int) (ea : Option Addr) (el ec : Nat) (es : List Int) (pa : Option Addr) (pl pc : Nat) (ps : List Int) (la : Option Addr) (ll lc : Nat) (lo : List Int) (ha : Option Addr) (hl hc : Nat) (hi : List Int) (ta : Option Addr) (tl tc : Nat) (st : List Int) (A : Option Addr) (len cap : Nat) (xss : List (List Int)) (w : World)
    (he : Lst w ea el ec es) (hp : Lst w pa pl pc ps) (hlo : Lst w la ll lc lo) (hhi : Lst w ha hl hc hi) (hst : Lst w ta tl tc st) (h : Lsts w A len xss) (hcap : len ≤ cap) (hlen : len ≤ 1048576) (b0 : el ≤ 1048576) (b1 : pl ≤ 1048576) (b2 : ll ≤ 1048576) (b3 : hl ≤ 1048576) (b4 : tl ≤ 1048576) (hz : ∀ d ∈ xss, sizeE d = 0) (ht : takesE k len = 0) :
    Calls Try.prog 28 #[.agg #[.int .i64 k, .slice ea el ec, .slice pa pl pc, .slice la ll lc, .slice ha hl hc, .slice ta tl tc, .int .i64 x], .slice A len cap] w fun e w' => OutP e w' (shapeP k es ps lo hi st xss) ∧ Below w.heap.size w w' := by
  rcases takes_ok ht with ⟨rfl, hn⟩ | ⟨h9, h15, hn⟩ | ⟨hk, hn⟩ | ⟨h3, h8, hn⟩ | ⟨rfl, hn⟩
  · exact shape_2 x ea el ec es pa pl pc ps la ll lc lo ha hl hc hi ta tl tc st A len cap xss w he hp hlo hhi hst h hcap hz hn hlen b0 b1 b2 b3 b4
  · have hk : k = 9 ∨ k = 10 ∨ k = 11 ∨ k = 12 ∨ k = 13 ∨ k = 14 ∨ k = 15 := by omega
    rcases hk with rfl | rfl | rfl | rfl | rfl | rfl | rfl
    · exact shape_9 x ea el ec es pa pl pc ps la ll lc lo ha hl hc hi ta tl tc st A len cap xss w he hp hlo hhi hst h hcap hz hn hlen b0 b1 b2 b3 b4
    · exact shape_10 x ea el ec es pa pl pc ps la ll lc lo ha hl hc hi ta tl tc st A len cap xss w he hp hlo hhi hst h hcap hz hn hlen b0 b1 b2 b3 b4
    · exact shape_11 x ea el ec es pa pl pc ps la ll lc lo ha hl hc hi ta tl tc st A len cap xss w he hp hlo hhi hst h hcap hz hn hlen b0 b1 b2 b3 b4
    · exact shape_12 x ea el ec es pa pl pc ps la ll lc lo ha hl hc hi ta tl tc st A len cap xss w he hp hlo hhi hst h hcap hz hn hlen b0 b1 b2 b3 b4
    · exact shape_13 x ea el ec es pa pl pc ps la ll lc lo ha hl hc hi ta tl tc st A len cap xss w he hp hlo hhi hst h hcap hz hn hlen b0 b1 b2 b3 b4
    · exact shape_14 x ea el ec es pa pl pc ps la ll lc lo ha hl hc hi ta tl tc st A len cap xss w he hp hlo hhi hst h hcap hz hn hlen b0 b1 b2 b3 b4
    · exact shape_15 x ea el ec es pa pl pc ps la ll lc lo ha hl hc hi ta tl tc st A len cap xss w he hp hlo hhi hst h hcap hz hn hlen b0 b1 b2 b3 b4
  · rcases hk with rfl | rfl | rfl
    · exact shape_16 x ea el ec es pa pl pc ps la ll lc lo ha hl hc hi ta tl tc st A len cap xss w he hp hlo hhi hst h hcap hz hn hlen b0 b1 b2 b3 b4
    · exact shape_18 x ea el ec es pa pl pc ps la ll lc lo ha hl hc hi ta tl tc st A len cap xss w he hp hlo hhi hst h hcap hz hn hlen b0 b1 b2 b3 b4
    · exact shape_19 x ea el ec es pa pl pc ps la ll lc lo ha hl hc hi ta tl tc st A len cap xss w he hp hlo hhi hst h hcap hz hn hlen b0 b1 b2 b3 b4
  · have hs : shapeP k es ps lo hi st xss = sameP xss := by
      unfold shapeP
      rw [if_neg (by omega), if_neg (by omega), if_neg (by omega), if_neg (by omega), if_neg (by omega), if_neg (by omega), if_neg (by omega), if_neg (by omega), if_neg (by omega), if_neg (by omega), if_neg (by omega), if_neg (by omega)]
    rw [hs]
    exact shape_same k x ea el ec es pa pl pc ps la ll lc lo ha hl hc hi ta tl tc st A len cap xss w he hp hlo hhi hst h hcap hz ⟨h3, h8⟩ hn hlen b0 b1 b2 b3 b4
  · exact shape_17 x ea el ec es pa pl pc ps la ll lc lo ha hl hc hi ta tl tc st A len cap xss w he hp hlo hhi hst h hcap hz hn hlen b0 b1 b2 b3 b4

set_option maxRecDepth 100000 in
set_option maxHeartbeats 4000000 in
theorem Dims_any (k x : Int) (ea : Option Addr) (el ec : Nat) (es : List Int) (pa : Option Addr) (pl pc : Nat) (ps : List Int) (la : Option Addr) (ll lc : Nat) (lo : List Int) (ha : Option Addr) (hl hc : Nat) (hi : List Int) (ta : Option Addr) (tl tc : Nat) (st : List Int) (A : Option Addr) (len cap : Nat) (xss : List (List Int)) (w : World)
    (he : Lst w ea el ec es) (hp : Lst w pa pl pc ps) (hlo : Lst w la ll lc lo) (hhi : Lst w ha hl hc hi) (hst : Lst w ta tl tc st) (h : Lsts w A len xss) (hcap : len ≤ cap) (hlen : len ≤ 1048576) (b0 : el ≤ 1048576) (b1 : pl ≤ 1048576) (b2 : ll ≤ 1048576) (b3 : hl ≤ 1048576) (b4 : tl ≤ 1048576) :
    Calls Try.prog 7 #[.agg #[.int .i64 k, .slice ea el ec, .slice pa pl pc, .slice la ll lc, .slice ha hl hc, .slice ta tl tc, .int .i64 x], .slice A len cap] w fun e w' => OutP e w' (dimsP k es ps lo hi st xss) ∧ Below w.heap.size w w' := by
  have hmx := h.2.1
  have H := hide h
  have HN := hide h.1
  have HE := hide he
  have HP := hide hp
  have HLO := hide hlo
  have HHI := hide hhi
  have HST := hide hst
  have HB1 := hide ((Below.refl w.heap.size w).alloc (Nat.le_refl _) (.cells #[.int .i64 k, .slice ea el ec, .slice pa pl pc, .slice la ll lc, .slice ha hl hc, .slice ta tl tc, .int .i64 x] 24))
  have HOP := hide (OpAt.new w k (.slice ea el ec) (.slice pa pl pc) (.slice la ll lc) (.slice ha hl hc) (.slice ta tl tc) x)
  obtain ⟨o0, o1, o2, o3, o4, o5, o6⟩ := HOP.out.cells
  have HDP := hide (show dimsP k es ps lo hi st xss = if takesE k xss.length ≠ 0 then ([], takesE k xss.length) else if sizesE xss ≠ 0 then ([], sizesE xss) else if (shapeP k es ps lo hi st xss).2 ≠ 0 then ([], (shapeP k es ps lo hi st xss).2) else if sizeE (shapeP k es ps lo hi st xss).1 ≠ 0 then ([], sizeE (shapeP k es ps lo hi st xss).1) else ((shapeP k es ps lo hi st xss).1, 0) from rfl)
  clear h he hp hlo hhi hst
  by_cases c1 : takesE k len = 0
  case neg =>
    obtain ⟨T, hT⟩ : ∃ T, T = takesE k len := ⟨_, rfl⟩
    have hp : dimsP k es ps lo hi st xss = ([], T) := by rw [HDP.out, HN.out, if_pos c1, ← hT]
    rw [hp]
    have HT := hide hT
    have q : (T != 0) = true := by rw [hT]; simp [c1]
    clear hp c1 hT
    go_enter Try.func7, Try.ntmps7
    go_wp2_with (go_at_call 26; refine (takes_any _ _ _).mono ?_; rintro e w' ⟨rfl, hw'⟩; obtain rfl := hw'.symm; rw [← HT.out])
    go_ret2
    exact ⟨outP_none _ _, HB1.out⟩
  have HC1 := hide c1
  clear c1
  go_enter Try.func7, Try.ntmps7
  go_wp2_with (go_at_call 26; refine (takes_any _ _ _).mono ?_; rintro e w' ⟨rfl, hw'⟩; obtain rfl := hw'.symm; rw [HC1.out])
  go_loopw [25] (fun i wr => ∃ j : Nat, j ≤ len ∧ i = .int .i64 j ∧ (∀ t, t < j → sizeE (xss[t]?.getD []) = 0) ∧ OpAt wr w.heap.size k (.slice ea el ec) (.slice pa pl pc) (.slice la ll lc) (.slice ha hl hc) (.slice ta tl tc) x ∧ Below w.heap.size w wr) (fun i _ => len - (intOf i).toNat)
  case atStart => exact ⟨0, Nat.zero_le _, rfl, fun t ht => by omega, HOP.out, HB1.out⟩
  case round =>
    obtain ⟨j, hj, rfl, hgood, ho, hB⟩ := hrel
    have HG := hide hgood
    have HO := hide ho
    have HB := hide hB
    clear hgood ho hB o0 o1 o2 o3 o4 o5 o6
    by_cases hlt : j < len
    · obtain ⟨b, off, rfl, hc⟩ := H.out.at (by omega)
      obtain ⟨X, m, c, hcj0, hlj⟩ := hc j hlt
      have hcj : wr.cell? ⟨b, off + j, none⟩ = some (.slice X m c) := (HB.out.cell (p := ⟨b, off + j, none⟩) (lt_of_cell hcj0)).trans hcj0
      have HLJ := hide hlj
      clear hlj hcj0 hc
      obtain ⟨T, hT⟩ : ∃ T, T = sizeE (xss[j]?.getD []) := ⟨_, rfl⟩
      have HT := hide hT
      by_cases c2 : T = 0
      · have HT0 : Hid (sizeE (xss[j]?.getD []) = 0) := hT.symm.trans c2
        clear hT c2 HT
        go_wp2_with (go_at_call 27; refine (size_any _ _ _ (xss[j]?.getD []) _ (HLJ.out.1.below HB.out)).mono ?_; rintro e w' ⟨rfl, hw'⟩; obtain rfl := hw'.symm; rw [HT0.out])
        go_roundw
        case rel =>
          refine ⟨j + 1, by omega, by go_num, fun t ht => ?_, HO.out, HB.out⟩
          by_cases e : t = j
          · rw [e]; exact HT0.out
          · exact HG.out t (by omega)
        case measure => simp [intOf]; omega
      · have q : (T != 0) = true := by simp [c2]
        have hsz : sizesE xss = T := by
          rw [hT]
          exact sizesE_at xss j HG.out (by rw [HN.out]; exact hlt) (by rw [← hT]; exact c2)
        have hp : dimsP k es ps lo hi st xss = ([], T) := by rw [HDP.out, HN.out, if_neg (by rw [HC1.out]; simp), hsz, if_pos c2]
        have HPP := hide hp
        clear hp hsz hT c2
        go_wp2_with (go_at_call 27; refine (size_any _ _ _ (xss[j]?.getD []) _ (HLJ.out.1.below HB.out)).mono ?_; rintro e w' ⟨rfl, hw'⟩; obtain rfl := hw'.symm; rw [← HT.out])
        go_ret2
        rw [HPP.out]
        exact ⟨outP_none _ _, HB.out⟩
    · obtain rfl : j = len := by omega
      have hall : sizesE xss = 0 := sizesE_all xss (fun t ht => HG.out t (by rw [HN.out] at ht; exact ht))
      have HZ := hide (sizesE_ok xss hall)
      have HD2 : Hid (dimsP k es ps lo hi st xss = if (shapeP k es ps lo hi st xss).2 ≠ 0 then ([], (shapeP k es ps lo hi st xss).2) else if sizeE (shapeP k es ps lo hi st xss).1 ≠ 0 then ([], sizeE (shapeP k es ps lo hi st xss).1) else ((shapeP k es ps lo hi st xss).1, 0)) := by
        rw [Hid, HDP.out, HN.out, if_neg (by rw [HC1.out]; simp), if_neg (by rw [hall]; simp)]
      have HCS := hide (shape_any k x _ _ _ es _ _ _ ps _ _ _ lo _ _ _ hi _ _ _ st _ _ cap xss wr (HE.out.below HB.out) (HP.out.below HB.out) (HLO.out.below HB.out) (HHI.out.below HB.out) (HST.out.below HB.out) (H.out.below HB.out) hcap hlen b0 b1 b2 b3 b4 HZ.out HC1.out)
      obtain ⟨⟨L, E⟩, hLE⟩ : ∃ r, r = shapeP k es ps lo hi st xss := ⟨_, rfl⟩
      rw [← hLE] at HCS HD2
      have hd2 := HD2.out
      simp only at hd2
      obtain ⟨o0, o1, o2, o3, o4, o5, o6⟩ := HO.out.cells
      clear hall hLE HDP HD2
      by_cases c3 : E = 0
      case neg =>
        have q : (E != 0) = true := by simp [c3]
        rw [if_pos c3] at hd2
        have HPP := hide hd2
        clear hd2 c3
        go_wp2_with (go_at_call 28; refine HCS.out.mono ?_; rintro e w1 ⟨⟨Z, nz, cz, rfl, hi1, hnc⟩, hb⟩; have HB2 := hide (Below.on HB.out hb); clear hi1 hb)
        go_ret2
        rw [HPP.out]
        exact ⟨outP_none _ _, HB2.out⟩
      subst c3
      rw [if_neg (by simp)] at hd2
      obtain ⟨S, hS⟩ : ∃ S, S = sizeE L := ⟨_, rfl⟩
      have HSS := hide hS
      rw [← hS] at hd2
      clear hS
      by_cases c4 : S = 0
      · subst c4
        rw [if_neg (by simp)] at hd2
        have HPP := hide hd2
        clear hd2
        go_wp2_with (first
          | (go_at_call 28; refine HCS.out.mono ?_; rintro e w1 ⟨⟨Z, nz, cz, rfl, hi1, hnc⟩, hb⟩; have HI1 : Hid (Ints w1 Z nz L) := hi1; have HB2 := hide (Below.on HB.out hb); clear hi1 hb)
          | (go_at_call 27; refine (size_any _ _ _ L _ HI1.out).mono ?_; rintro e w' ⟨rfl, hw'⟩; obtain rfl := hw'.symm; rw [← HSS.out]))
        go_ret2
        rw [HPP.out]
        exact ⟨⟨_, _, _, rfl, HI1.out, hnc⟩, HB2.out⟩
      · have q : (S != 0) = true := by simp [c4]
        rw [if_pos c4] at hd2
        have HPP := hide hd2
        clear hd2 c4
        go_wp2_with (first
          | (go_at_call 28; refine HCS.out.mono ?_; rintro e w1 ⟨⟨Z, nz, cz, rfl, hi1, hnc⟩, hb⟩; have HI1 : Hid (Ints w1 Z nz L) := hi1; have HB2 := hide (Below.on HB.out hb); clear hi1 hb)
          | (go_at_call 27; refine (size_any _ _ _ L _ HI1.out).mono ?_; rintro e w' ⟨rfl, hw'⟩; obtain rfl := hw'.symm; rw [← HSS.out]))
        go_ret2
        rw [HPP.out]
        exact ⟨outP_none _ _, HB2.out⟩

end Go.Proofs.Ytcidhbkdaleomaa.V
namespace Go.Proofs.Ytcidhbkdaleomaa.V
set_option maxRecDepth 20000
open Go.RowKit

end Go.Proofs.Ytcidhbkdaleomaa.V
