/-
  Contracts: array.Dims, adjointref2.Dims. Contract: array.Weight. Contract: adjointref2.Weight.
-/
import Derived.Test.YtmpigjdkkbfbcaaK27
import Derived.Test.YtmpigjdkkbfbcaaK32
import Derived.Test.YtmpigjdkkbfbcaaK25
namespace Go.Proofs.Ytmpigjdkkbfbcaa.V
set_option maxRecDepth 20000
open Go.RowKit

/-- What the table says of an operation on dimensions. -/
def shapeP (k : Int) (es ps lo hi st : List Int) (xss : List (List Int)) : List Int × Int := if k = 2 then (es, 0) else if k = 9 then (okL (sprE 0 (xss[0]?.getD []) (stepsV (xss[0]?.getD [])) es ps) es, sprE 0 (xss[0]?.getD []) (stepsV (xss[0]?.getD [])) es ps) else if k = 10 then sumP (xss[0]?.getD []) ps else if k = 11 then (okL (turnE 0 (xss[0]?.getD []) (stepsV (xss[0]?.getD [])) ps) (taken (xss[0]?.getD []) ps), turnE 0 (xss[0]?.getD []) (stepsV (xss[0]?.getD [])) ps) else if k = 12 then reformP (xss[0]?.getD []) es else if k = 13 then (okL (cutE 0 (xss[0]?.getD []) (stepsV (xss[0]?.getD [])) lo hi st) (cutD (xss[0]?.getD []) lo hi st), cutE 0 (xss[0]?.getD []) (stepsV (xss[0]?.getD [])) lo hi st) else if k = 14 then padP (xss[0]?.getD []) lo hi st else if k = 15 then (okL (flipE 0 (xss[0]?.getD []) (stepsV (xss[0]?.getD [])) ps) (xss[0]?.getD []), flipE 0 (xss[0]?.getD []) (stepsV (xss[0]?.getD [])) ps) else if k = 16 then dotP ps st lo hi (xss[0]?.getD []) (xss[1]?.getD []) else if k = 17 then joinP ps xss else if k = 18 then takeP (xss[0]?.getD []) (xss[1]?.getD []) else if k = 19 then putP es (xss[0]?.getD []) (xss[1]?.getD []) else sameP xss
/-- What is wrong with the first list with which something is. -/
def sizesE : List (List Int) → Int
  | [] => 0
  | d :: r => if sizeE d = 0 then sizesE r else sizeE d
theorem sizesE_ok : ∀ xss : List (List Int), sizesE xss = 0 → ∀ d ∈ xss, sizeE d = 0
  | [], _, d, hd => by cases hd
  | x :: r, h, d, hd => by
    rw [sizesE] at h
    by_cases c : sizeE x = 0
    · rw [if_pos c] at h
      rcases List.mem_cons.1 hd with e | e
      · rw [e]; exact c
      · exact sizesE_ok r h d e
    · rw [if_neg c] at h; exact absurd h c
theorem sizesE_at : ∀ (xss : List (List Int)) (j : Nat), (∀ t, t < j → sizeE (xss[t]?.getD []) = 0) → j < xss.length → sizeE (xss[j]?.getD []) ≠ 0 → sizesE xss = sizeE (xss[j]?.getD [])
  | [], j, _, h, _ => by simp at h
  | x :: r, 0, _, _, hne => by
    have e : ((x :: r)[0]?.getD []) = x := by simp
    rw [e] at hne ⊢
    rw [sizesE, if_neg hne]
  | x :: r, j + 1, h0, hj, hne => by
    have c := h0 0 (by omega)
    have e : ((x :: r)[0]?.getD []) = x := by simp
    rw [e] at c
    have e2 : ((x :: r)[j + 1]?.getD []) = r[j]?.getD [] := by simp
    rw [e2] at hne ⊢
    rw [sizesE, if_pos c]
    refine sizesE_at r j (fun t ht => ?_) (by simpa using hj) hne
    have := h0 (t + 1) (by omega)
    simpa using this
theorem sizesE_all : ∀ (xss : List (List Int)), (∀ t, t < xss.length → sizeE (xss[t]?.getD []) = 0) → sizesE xss = 0
  | [], _ => rfl
  | x :: r, h => by
    have c := h 0 (by simp)
    have e : ((x :: r)[0]?.getD []) = x := by simp
    rw [e] at c
    rw [sizesE, if_pos c]
    refine sizesE_all r (fun t ht => ?_)
    have := h (t + 1) (by simpa using ht)
    simpa using this
/-- What Dims answers. -/
def dimsP (k : Int) (es ps lo hi st : List Int) (xss : List (List Int)) : List Int × Int :=
  if takesE k xss.length ≠ 0 then ([], takesE k xss.length)
  else if sizesE xss ≠ 0 then ([], sizesE xss)
  else if (shapeP k es ps lo hi st xss).2 ≠ 0 then ([], (shapeP k es ps lo hi st xss).2)
  else if sizeE (shapeP k es ps lo hi st xss).1 ≠ 0 then ([], sizeE (shapeP k es ps lo hi st xss).1)
  else ((shapeP k es ps lo hi st xss).1, 0)
theorem takes_ok {k : Int} {n : Nat} (h : takesE k n = 0) : (k = 2 ∧ n = 0) ∨ (9 ≤ k ∧ k ≤ 15 ∧ n = 1) ∨ ((k = 16 ∨ k = 18 ∨ k = 19) ∧ n = 2) ∨ (3 ≤ k ∧ k ≤ 8 ∧ 1 ≤ n) ∨ (k = 17 ∧ 1 ≤ n) := by
  unfold takesE at h
  by_cases c1 : k = 2
  · rw [if_pos c1] at h
    by_cases d : n = 0
    · exact .inl ⟨c1, d⟩
    · rw [if_neg d] at h; omega
  rw [if_neg c1] at h
  by_cases c2 : 9 ≤ k ∧ k ≤ 15
  · rw [if_pos c2] at h
    by_cases d : n = 1
    · exact .inr (.inl ⟨c2.1, c2.2, d⟩)
    · rw [if_neg d] at h; omega
  rw [if_neg c2] at h
  by_cases c3 : (3 ≤ k ∧ k ≤ 7) ∨ k = 16 ∨ k = 18 ∨ k = 19
  · rw [if_pos c3] at h
    by_cases d : n = 2
    · omega
    · rw [if_neg d] at h; omega
  rw [if_neg c3] at h
  by_cases c4 : k = 8
  · rw [if_pos c4] at h
    by_cases d : n = 3
    · omega
    · rw [if_neg d] at h; omega
  rw [if_neg c4] at h
  by_cases c5 : k = 17
  · rw [if_pos c5] at h
    by_cases d : n = 0
    · rw [if_pos d] at h; omega
    · omega
  rw [if_neg c5] at h; omega

theorem shape_any (k x : Int) (ea : Option Addr) (el ec : Nat) (es : List Int) (pa : Option Addr) (pl pc : Nat) (ps : List Int) (la : Option Addr) (ll lc : Nat) (lo : List Int) (ha : Option Addr) (hl hc : Nat) (hi : List Int) (ta : Option Addr) (tl tc : Nat) (st : List Int) (A : Option Addr) (len cap : Nat) (xss : List (List Int)) (w : World)
    (he : Lst w ea el ec es) (hp : Lst w pa pl pc ps) (hlo : Lst w la ll lc lo) (hhi : Lst w ha hl hc hi) (hst : Lst w ta tl tc st) (h : Lsts w A len xss) (hcap : len ≤ cap) (hlen : len ≤ 1048576) (b0 : el ≤ 1048576) (b1 : pl ≤ 1048576) (b2 : ll ≤ 1048576) (b3 : hl ≤ 1048576) (b4 : tl ≤ 1048576) (hz : ∀ d ∈ xss, sizeE d = 0) (ht : takesE k len = 0) :
    Calls Try.prog 36 #[.agg #[.int .i64 k, .slice ea el ec, .slice pa pl pc, .slice la ll lc, .slice ha hl hc, .slice ta tl tc, .int .i64 x], .slice A len cap] w fun e w' => OutP e w' (shapeP k es ps lo hi st xss) ∧ Below w.heap.size w w' := by
  rcases takes_ok ht with ⟨rfl, hn⟩ | ⟨h9, h15, hn⟩ | ⟨hk, hn⟩ | ⟨h3, h8, hn⟩ | ⟨rfl, hn⟩
  · exact shape_2 x ea el ec es pa pl pc ps la ll lc lo ha hl hc hi ta tl tc st A len cap xss w he hp hlo hhi hst h hcap hz hn hlen b0 b1 b2 b3 b4
  · have hk : k = 9 ∨ k = 10 ∨ k = 11 ∨ k = 12 ∨ k = 13 ∨ k = 14 ∨ k = 15 := by omega
    rcases hk with rfl | rfl | rfl | rfl | rfl | rfl | rfl
    · exact shape_9 x ea el ec es pa pl pc ps la ll lc lo ha hl hc hi ta tl tc st A len cap xss w he hp hlo hhi hst h hcap hz hn hlen b0 b1 b2 b3 b4
    · exact shape_10 x ea el ec es pa pl pc ps la ll lc lo ha hl hc hi ta tl tc st A len cap xss w he hp hlo hhi hst h hcap hz hn hlen b0 b1 b2 b3 b4
    · exact shape_11 x ea el ec es pa pl pc ps la ll lc lo ha hl hc hi ta tl tc st A len cap xss w he hp hlo hhi hst h hcap hz hn hlen b0 b1 b2 b3 b4
    · exact shape_12 x ea el ec es pa pl pc ps la ll lc lo ha hl hc hi ta tl tc st A len cap xss w he hp hlo hhi hst h hcap hz hn hlen b0 b1 b2 b3 b4
    · exact shape_13 x ea el ec es pa pl pc ps la ll lc lo ha hl hc hi ta tl tc st A len cap xss w he hp hlo hhi hst h hcap hz hn hlen b0 b1 b2 b3 b4
    · exact shape_14 x ea el ec es pa pl pc ps la ll lc lo ha hl hc hi ta tl tc st A len cap xss w he hp hlo hhi hst h hcap hz hn hlen b0 b1 b2 b3 b4
    · exact shape_15 x ea el ec es pa pl pc ps la ll lc lo ha hl hc hi ta tl tc st A len cap xss w he hp hlo hhi hst h hcap hz hn hlen b0 b1 b2 b3 b4
  · rcases hk with rfl | rfl | rfl
    · exact shape_16 x ea el ec es pa pl pc ps la ll lc lo ha hl hc hi ta tl tc st A len cap xss w he hp hlo hhi hst h hcap hz hn hlen b0 b1 b2 b3 b4
    · exact shape_18 x ea el ec es pa pl pc ps la ll lc lo ha hl hc hi ta tl tc st A len cap xss w he hp hlo hhi hst h hcap hz hn hlen b0 b1 b2 b3 b4
    · exact shape_19 x ea el ec es pa pl pc ps la ll lc lo ha hl hc hi ta tl tc st A len cap xss w he hp hlo hhi hst h hcap hz hn hlen b0 b1 b2 b3 b4
  · have hs : shapeP k es ps lo hi st xss = sameP xss := by
      unfold shapeP
      rw [if_neg (by omega), if_neg (by omega), if_neg (by omega), if_neg (by omega), if_neg (by omega), if_neg (by omega), if_neg (by omega), if_neg (by omega), if_neg (by omega), if_neg (by omega), if_neg (by omega), if_neg (by omega)]
    rw [hs]
    exact shape_same k x ea el ec es pa pl pc ps la ll lc lo ha hl hc hi ta tl tc st A len cap xss w he hp hlo hhi hst h hcap hz ⟨h3, h8⟩ hn hlen b0 b1 b2 b3 b4
  · exact shape_17 x ea el ec es pa pl pc ps la ll lc lo ha hl hc hi ta tl tc st A len cap xss w he hp hlo hhi hst h hcap hz hn hlen b0 b1 b2 b3 b4

theorem ruled_any (k x : Int) (ea : Option Addr) (el ec : Nat) (es : List Int) (pa : Option Addr) (pl pc : Nat) (ps : List Int) (la : Option Addr) (ll lc : Nat) (lo : List Int) (ha : Option Addr) (hl hc : Nat) (hi : List Int) (ta : Option Addr) (tl tc : Nat) (st : List Int) (A : Option Addr) (len cap : Nat) (xss : List (List Int)) (w : World)
    (he : Lst w ea el ec es) (hp : Lst w pa pl pc ps) (hlo : Lst w la ll lc lo) (hhi : Lst w ha hl hc hi) (hst : Lst w ta tl tc st) (h : Lsts w A len xss) (hcap : len ≤ cap) (hlen : len ≤ 1048576) (b0 : el ≤ 1048576) (b1 : pl ≤ 1048576) (b2 : ll ≤ 1048576) (b3 : hl ≤ 1048576) (b4 : tl ≤ 1048576) (hz : ∀ d ∈ xss, sizeE d = 0) (ht : takesE k len = 0) :
    Calls Try.prog 30 #[.agg #[.int .i64 k, .slice ea el ec, .slice pa pl pc, .slice la ll lc, .slice ha hl hc, .slice ta tl tc, .int .i64 x], .slice A len cap] w fun e w' => OutP e w' (shapeP k es ps lo hi st xss) ∧ Below w.heap.size w w' := by
  rcases takes_ok ht with ⟨rfl, hn⟩ | ⟨h9, h15, hn⟩ | ⟨hk, hn⟩ | ⟨h3, h8, hn⟩ | ⟨rfl, hn⟩
  · exact ruled_2 x ea el ec es pa pl pc ps la ll lc lo ha hl hc hi ta tl tc st A len cap xss w he hp hlo hhi hst h hcap hz hn hlen b0 b1 b2 b3 b4
  · have hk : k = 9 ∨ k = 10 ∨ k = 11 ∨ k = 12 ∨ k = 13 ∨ k = 14 ∨ k = 15 := by omega
    rcases hk with rfl | rfl | rfl | rfl | rfl | rfl | rfl
    · exact ruled_9 x ea el ec es pa pl pc ps la ll lc lo ha hl hc hi ta tl tc st A len cap xss w he hp hlo hhi hst h hcap hz hn hlen b0 b1 b2 b3 b4
    · exact ruled_10 x ea el ec es pa pl pc ps la ll lc lo ha hl hc hi ta tl tc st A len cap xss w he hp hlo hhi hst h hcap hz hn hlen b0 b1 b2 b3 b4
    · exact ruled_11 x ea el ec es pa pl pc ps la ll lc lo ha hl hc hi ta tl tc st A len cap xss w he hp hlo hhi hst h hcap hz hn hlen b0 b1 b2 b3 b4
    · exact ruled_12 x ea el ec es pa pl pc ps la ll lc lo ha hl hc hi ta tl tc st A len cap xss w he hp hlo hhi hst h hcap hz hn hlen b0 b1 b2 b3 b4
    · exact ruled_13 x ea el ec es pa pl pc ps la ll lc lo ha hl hc hi ta tl tc st A len cap xss w he hp hlo hhi hst h hcap hz hn hlen b0 b1 b2 b3 b4
    · exact ruled_14 x ea el ec es pa pl pc ps la ll lc lo ha hl hc hi ta tl tc st A len cap xss w he hp hlo hhi hst h hcap hz hn hlen b0 b1 b2 b3 b4
    · exact ruled_15 x ea el ec es pa pl pc ps la ll lc lo ha hl hc hi ta tl tc st A len cap xss w he hp hlo hhi hst h hcap hz hn hlen b0 b1 b2 b3 b4
  · rcases hk with rfl | rfl | rfl
    · exact ruled_16 x ea el ec es pa pl pc ps la ll lc lo ha hl hc hi ta tl tc st A len cap xss w he hp hlo hhi hst h hcap hz hn hlen b0 b1 b2 b3 b4
    · exact ruled_18 x ea el ec es pa pl pc ps la ll lc lo ha hl hc hi ta tl tc st A len cap xss w he hp hlo hhi hst h hcap hz hn hlen b0 b1 b2 b3 b4
    · exact ruled_19 x ea el ec es pa pl pc ps la ll lc lo ha hl hc hi ta tl tc st A len cap xss w he hp hlo hhi hst h hcap hz hn hlen b0 b1 b2 b3 b4
  · have hs : shapeP k es ps lo hi st xss = sameP xss := by
      unfold shapeP
      rw [if_neg (by omega), if_neg (by omega), if_neg (by omega), if_neg (by omega), if_neg (by omega), if_neg (by omega), if_neg (by omega), if_neg (by omega), if_neg (by omega), if_neg (by omega), if_neg (by omega), if_neg (by omega)]
    rw [hs]
    exact ruled_same k x ea el ec es pa pl pc ps la ll lc lo ha hl hc hi ta tl tc st A len cap xss w he hp hlo hhi hst h hcap hz ⟨h3, h8⟩ hn hlen b0 b1 b2 b3 b4
  · exact ruled_17 x ea el ec es pa pl pc ps la ll lc lo ha hl hc hi ta tl tc st A len cap xss w he hp hlo hhi hst h hcap hz hn hlen b0 b1 b2 b3 b4

set_option maxRecDepth 100000 in
set_option maxHeartbeats 4000000 in
theorem Dims_any (k x : Int) (ea : Option Addr) (el ec : Nat) (es : List Int) (pa : Option Addr) (pl pc : Nat) (ps : List Int) (la : Option Addr) (ll lc : Nat) (lo : List Int) (ha : Option Addr) (hl hc : Nat) (hi : List Int) (ta : Option Addr) (tl tc : Nat) (st : List Int) (A : Option Addr) (len cap : Nat) (xss : List (List Int)) (w : World)
    (he : Lst w ea el ec es) (hp : Lst w pa pl pc ps) (hlo : Lst w la ll lc lo) (hhi : Lst w ha hl hc hi) (hst : Lst w ta tl tc st) (h : Lsts w A len xss) (hcap : len ≤ cap) (hlen : len ≤ 1048576) (b0 : el ≤ 1048576) (b1 : pl ≤ 1048576) (b2 : ll ≤ 1048576) (b3 : hl ≤ 1048576) (b4 : tl ≤ 1048576) :
    Calls Try.prog 23 #[.agg #[.int .i64 k, .slice ea el ec, .slice pa pl pc, .slice la ll lc, .slice ha hl hc, .slice ta tl tc, .int .i64 x], .slice A len cap] w fun e w' => OutP e w' (dimsP k es ps lo hi st xss) ∧ Below w.heap.size w w' := by
  have hmx := h.2.1
  have H := hide h
  have HN := hide h.1
  have HE := hide he
  have HP := hide hp
  have HLO := hide hlo
  have HHI := hide hhi
  have HST := hide hst
  have HB1 := hide ((Below.refl w.heap.size w).alloc (Nat.le_refl _) (.cells #[.int .i64 k, .slice ea el ec, .slice pa pl pc, .slice la ll lc, .slice ha hl hc, .slice ta tl tc, .int .i64 x] 37))
  have HOP := hide (OpAt.new w k (.slice ea el ec) (.slice pa pl pc) (.slice la ll lc) (.slice ha hl hc) (.slice ta tl tc) x)
  obtain ⟨o0, o1, o2, o3, o4, o5, o6⟩ := HOP.out.cells
  have HDP := hide (show dimsP k es ps lo hi st xss = if takesE k xss.length ≠ 0 then ([], takesE k xss.length) else if sizesE xss ≠ 0 then ([], sizesE xss) else if (shapeP k es ps lo hi st xss).2 ≠ 0 then ([], (shapeP k es ps lo hi st xss).2) else if sizeE (shapeP k es ps lo hi st xss).1 ≠ 0 then ([], sizeE (shapeP k es ps lo hi st xss).1) else ((shapeP k es ps lo hi st xss).1, 0) from rfl)
  clear h he hp hlo hhi hst
  by_cases c1 : takesE k len = 0
  case neg =>
    obtain ⟨T, hT⟩ : ∃ T, T = takesE k len := ⟨_, rfl⟩
    have hp : dimsP k es ps lo hi st xss = ([], T) := by rw [HDP.out, HN.out, if_pos c1, ← hT]
    rw [hp]
    have HT := hide hT
    have q : (T != 0) = true := by rw [hT]; simp [c1]
    clear hp c1 hT
    go_enter Try.func23, Try.ntmps23
    go_wp2_with (go_at_call 35; refine (takes_any _ _ _).mono ?_; rintro e w' ⟨rfl, hw'⟩; obtain rfl := hw'.symm; rw [← HT.out])
    go_ret2
    exact ⟨outP_none _ _, HB1.out⟩
  have HC1 := hide c1
  clear c1
  go_enter Try.func23, Try.ntmps23
  go_wp2_with (go_at_call 35; refine (takes_any _ _ _).mono ?_; rintro e w' ⟨rfl, hw'⟩; obtain rfl := hw'.symm; rw [HC1.out])
  go_loopw [25] (fun i wr => ∃ j : Nat, j ≤ len ∧ i = .int .i64 j ∧ (∀ t, t < j → sizeE (xss[t]?.getD []) = 0) ∧ OpAt wr w.heap.size k (.slice ea el ec) (.slice pa pl pc) (.slice la ll lc) (.slice ha hl hc) (.slice ta tl tc) x ∧ Below w.heap.size w wr) (fun i _ => len - (intOf i).toNat)
  case atStart => exact ⟨0, Nat.zero_le _, rfl, fun t ht => by omega, HOP.out, HB1.out⟩
  case round =>
    obtain ⟨j, hj, rfl, hgood, ho, hB⟩ := hrel
    have HG := hide hgood
    have HO := hide ho
    have HB := hide hB
    clear hgood ho hB o0 o1 o2 o3 o4 o5 o6
    by_cases hlt : j < len
    · obtain ⟨b, off, rfl, hc⟩ := H.out.at (by omega)
      obtain ⟨X, m, c, hcj0, hlj⟩ := hc j hlt
      have hcj : wr.cell? ⟨b, off + j, none⟩ = some (.slice X m c) := (HB.out.cell (p := ⟨b, off + j, none⟩) (lt_of_cell hcj0)).trans hcj0
      have HLJ := hide hlj
      clear hlj hcj0 hc
      obtain ⟨T, hT⟩ : ∃ T, T = sizeE (xss[j]?.getD []) := ⟨_, rfl⟩
      have HT := hide hT
      by_cases c2 : T = 0
      · have HT0 : Hid (sizeE (xss[j]?.getD []) = 0) := hT.symm.trans c2
        clear hT c2 HT
        go_wp2_with (go_at_call 25; refine (size_any _ _ _ (xss[j]?.getD []) _ (HLJ.out.1.below HB.out)).mono ?_; rintro e w' ⟨rfl, hw'⟩; obtain rfl := hw'.symm; rw [HT0.out])
        go_roundw
        case rel =>
          refine ⟨j + 1, by omega, by go_num, fun t ht => ?_, HO.out, HB.out⟩
          by_cases e : t = j
          · rw [e]; exact HT0.out
          · exact HG.out t (by omega)
        case measure => simp [intOf]; omega
      · have q : (T != 0) = true := by simp [c2]
        have hsz : sizesE xss = T := by
          rw [hT]
          exact sizesE_at xss j HG.out (by rw [HN.out]; exact hlt) (by rw [← hT]; exact c2)
        have hp : dimsP k es ps lo hi st xss = ([], T) := by rw [HDP.out, HN.out, if_neg (by rw [HC1.out]; simp), hsz, if_pos c2]
        have HPP := hide hp
        clear hp hsz hT c2
        go_wp2_with (go_at_call 25; refine (size_any _ _ _ (xss[j]?.getD []) _ (HLJ.out.1.below HB.out)).mono ?_; rintro e w' ⟨rfl, hw'⟩; obtain rfl := hw'.symm; rw [← HT.out])
        go_ret2
        rw [HPP.out]
        exact ⟨outP_none _ _, HB.out⟩
    · obtain rfl : j = len := by omega
      have hall : sizesE xss = 0 := sizesE_all xss (fun t ht => HG.out t (by rw [HN.out] at ht; exact ht))
      have HZ := hide (sizesE_ok xss hall)
      have HD2 : Hid (dimsP k es ps lo hi st xss = if (shapeP k es ps lo hi st xss).2 ≠ 0 then ([], (shapeP k es ps lo hi st xss).2) else if sizeE (shapeP k es ps lo hi st xss).1 ≠ 0 then ([], sizeE (shapeP k es ps lo hi st xss).1) else ((shapeP k es ps lo hi st xss).1, 0)) := by
        rw [Hid, HDP.out, HN.out, if_neg (by rw [HC1.out]; simp), if_neg (by rw [hall]; simp)]
      have HCS := hide (shape_any k x _ _ _ es _ _ _ ps _ _ _ lo _ _ _ hi _ _ _ st _ _ cap xss wr (HE.out.below HB.out) (HP.out.below HB.out) (HLO.out.below HB.out) (HHI.out.below HB.out) (HST.out.below HB.out) (H.out.below HB.out) hcap hlen b0 b1 b2 b3 b4 HZ.out HC1.out)
      obtain ⟨⟨L, E⟩, hLE⟩ : ∃ r, r = shapeP k es ps lo hi st xss := ⟨_, rfl⟩
      rw [← hLE] at HCS HD2
      have hd2 := HD2.out
      simp only at hd2
      obtain ⟨o0, o1, o2, o3, o4, o5, o6⟩ := HO.out.cells
      clear hall hLE HDP HD2
      by_cases c3 : E = 0
      case neg =>
        have q : (E != 0) = true := by simp [c3]
        rw [if_pos c3] at hd2
        have HPP := hide hd2
        clear hd2 c3
        go_wp2_with (go_at_call 36; refine HCS.out.mono ?_; rintro e w1 ⟨⟨Z, nz, cz, rfl, hi1, hnc⟩, hb⟩; have HB2 := hide (Below.on HB.out hb); clear hi1 hb)
        go_ret2
        rw [HPP.out]
        exact ⟨outP_none _ _, HB2.out⟩
      subst c3
      rw [if_neg (by simp)] at hd2
      obtain ⟨S, hS⟩ : ∃ S, S = sizeE L := ⟨_, rfl⟩
      have HSS := hide hS
      rw [← hS] at hd2
      clear hS
      by_cases c4 : S = 0
      · subst c4
        rw [if_neg (by simp)] at hd2
        have HPP := hide hd2
        clear hd2
        go_wp2_with (first
          | (go_at_call 36; refine HCS.out.mono ?_; rintro e w1 ⟨⟨Z, nz, cz, rfl, hi1, hnc⟩, hb⟩; have HI1 : Hid (Ints w1 Z nz L) := hi1; have HB2 := hide (Below.on HB.out hb); clear hi1 hb)
          | (go_at_call 25; refine (size_any _ _ _ L _ HI1.out).mono ?_; rintro e w' ⟨rfl, hw'⟩; obtain rfl := hw'.symm; rw [← HSS.out]))
        go_ret2
        rw [HPP.out]
        exact ⟨⟨_, _, _, rfl, HI1.out, hnc⟩, HB2.out⟩
      · have q : (S != 0) = true := by simp [c4]
        rw [if_pos c4] at hd2
        have HPP := hide hd2
        clear hd2 c4
        go_wp2_with (first
          | (go_at_call 36; refine HCS.out.mono ?_; rintro e w1 ⟨⟨Z, nz, cz, rfl, hi1, hnc⟩, hb⟩; have HI1 : Hid (Ints w1 Z nz L) := hi1; have HB2 := hide (Below.on HB.out hb); clear hi1 hb)
          | (go_at_call 25; refine (size_any _ _ _ L _ HI1.out).mono ?_; rintro e w' ⟨rfl, hw'⟩; obtain rfl := hw'.symm; rw [← HSS.out]))
        go_ret2
        rw [HPP.out]
        exact ⟨outP_none _ _, HB2.out⟩

set_option maxRecDepth 100000 in
set_option maxHeartbeats 4000000 in
theorem rDims_any (k x : Int) (ea : Option Addr) (el ec : Nat) (es : List Int) (pa : Option Addr) (pl pc : Nat) (ps : List Int) (la : Option Addr) (ll lc : Nat) (lo : List Int) (ha : Option Addr) (hl hc : Nat) (hi : List Int) (ta : Option Addr) (tl tc : Nat) (st : List Int) (A : Option Addr) (len cap : Nat) (xss : List (List Int)) (w : World)
    (he : Lst w ea el ec es) (hp : Lst w pa pl pc ps) (hlo : Lst w la ll lc lo) (hhi : Lst w ha hl hc hi) (hst : Lst w ta tl tc st) (h : Lsts w A len xss) (hcap : len ≤ cap) (hlen : len ≤ 1048576) (b0 : el ≤ 1048576) (b1 : pl ≤ 1048576) (b2 : ll ≤ 1048576) (b3 : hl ≤ 1048576) (b4 : tl ≤ 1048576) :
    Calls Try.prog 16 #[.agg #[.int .i64 k, .slice ea el ec, .slice pa pl pc, .slice la ll lc, .slice ha hl hc, .slice ta tl tc, .int .i64 x], .slice A len cap] w fun e w' => OutP e w' (dimsP k es ps lo hi st xss) ∧ Below w.heap.size w w' := by
  have hmx := h.2.1
  have H := hide h
  have HN := hide h.1
  have HE := hide he
  have HP := hide hp
  have HLO := hide hlo
  have HHI := hide hhi
  have HST := hide hst
  have HB1 := hide ((Below.refl w.heap.size w).alloc (Nat.le_refl _) (.cells #[.int .i64 k, .slice ea el ec, .slice pa pl pc, .slice la ll lc, .slice ha hl hc, .slice ta tl tc, .int .i64 x] 37))
  have HOP := hide (OpAt.new w k (.slice ea el ec) (.slice pa pl pc) (.slice la ll lc) (.slice ha hl hc) (.slice ta tl tc) x)
  obtain ⟨o0, o1, o2, o3, o4, o5, o6⟩ := HOP.out.cells
  have HDP := hide (show dimsP k es ps lo hi st xss = if takesE k xss.length ≠ 0 then ([], takesE k xss.length) else if sizesE xss ≠ 0 then ([], sizesE xss) else if (shapeP k es ps lo hi st xss).2 ≠ 0 then ([], (shapeP k es ps lo hi st xss).2) else if sizeE (shapeP k es ps lo hi st xss).1 ≠ 0 then ([], sizeE (shapeP k es ps lo hi st xss).1) else ((shapeP k es ps lo hi st xss).1, 0) from rfl)
  clear h he hp hlo hhi hst
  by_cases c1 : takesE k len = 0
  case neg =>
    obtain ⟨T, hT⟩ : ∃ T, T = takesE k len := ⟨_, rfl⟩
    have hp : dimsP k es ps lo hi st xss = ([], T) := by rw [HDP.out, HN.out, if_pos c1, ← hT]
    rw [hp]
    have HT := hide hT
    have q : (T != 0) = true := by rw [hT]; simp [c1]
    clear hp c1 hT
    go_enter Try.func16, Try.ntmps16
    go_wp2_with (go_at_call 29; refine (right_any k (.slice ea el ec) (.slice pa pl pc) (.slice la ll lc) (.slice ha hl hc) (.slice ta tl tc) x len _).mono ?_; rintro e w1 ⟨rfl, hb⟩; rw [← HT.out]; have HBR := hide (Below.on HB1.out hb); have HOR := hide (HOP.out.below hb); clear hb)
    go_ret2
    exact ⟨outP_none _ _, HBR.out⟩
  have HC1 := hide c1
  clear c1
  go_enter Try.func16, Try.ntmps16
  go_wp2_with (go_at_call 29; refine (right_any k (.slice ea el ec) (.slice pa pl pc) (.slice la ll lc) (.slice ha hl hc) (.slice ta tl tc) x len _).mono ?_; rintro e w1 ⟨rfl, hb⟩; rw [HC1.out]; have HBR := hide (Below.on HB1.out hb); have HOR := hide (HOP.out.below hb); clear hb)
  go_loopw [24] (fun i wr => ∃ j : Nat, j ≤ len ∧ i = .int .i64 j ∧ (∀ t, t < j → sizeE (xss[t]?.getD []) = 0) ∧ OpAt wr w.heap.size k (.slice ea el ec) (.slice pa pl pc) (.slice la ll lc) (.slice ha hl hc) (.slice ta tl tc) x ∧ Below w.heap.size w wr) (fun i _ => len - (intOf i).toNat)
  case atStart => exact ⟨0, Nat.zero_le _, rfl, fun t ht => by omega, HOR.out, HBR.out⟩
  case round =>
    obtain ⟨j, hj, rfl, hgood, ho, hB⟩ := hrel
    have HG := hide hgood
    have HO := hide ho
    have HB := hide hB
    clear HBR HOR
    clear hgood ho hB o0 o1 o2 o3 o4 o5 o6
    by_cases hlt : j < len
    · obtain ⟨b, off, rfl, hc⟩ := H.out.at (by omega)
      obtain ⟨X, m, c, hcj0, hlj⟩ := hc j hlt
      have hcj : wr.cell? ⟨b, off + j, none⟩ = some (.slice X m c) := (HB.out.cell (p := ⟨b, off + j, none⟩) (lt_of_cell hcj0)).trans hcj0
      have HLJ := hide hlj
      clear hlj hcj0 hc
      obtain ⟨T, hT⟩ : ∃ T, T = sizeE (xss[j]?.getD []) := ⟨_, rfl⟩
      have HT := hide hT
      by_cases c2 : T = 0
      · have HT0 : Hid (sizeE (xss[j]?.getD []) = 0) := hT.symm.trans c2
        clear hT c2 HT
        go_wp2_with (go_at_call 15; refine (rsize_any _ _ _ (xss[j]?.getD []) _ (HLJ.out.1.below HB.out)).mono ?_; rintro e w' ⟨rfl, hw'⟩; obtain rfl := hw'.symm; rw [HT0.out])
        go_roundw
        case rel =>
          refine ⟨j + 1, by omega, by go_num, fun t ht => ?_, HO.out, HB.out⟩
          by_cases e : t = j
          · rw [e]; exact HT0.out
          · exact HG.out t (by omega)
        case measure => simp [intOf]; omega
      · have q : (T != 0) = true := by simp [c2]
        have hsz : sizesE xss = T := by
          rw [hT]
          exact sizesE_at xss j HG.out (by rw [HN.out]; exact hlt) (by rw [← hT]; exact c2)
        have hp : dimsP k es ps lo hi st xss = ([], T) := by rw [HDP.out, HN.out, if_neg (by rw [HC1.out]; simp), hsz, if_pos c2]
        have HPP := hide hp
        clear hp hsz hT c2
        go_wp2_with (go_at_call 15; refine (rsize_any _ _ _ (xss[j]?.getD []) _ (HLJ.out.1.below HB.out)).mono ?_; rintro e w' ⟨rfl, hw'⟩; obtain rfl := hw'.symm; rw [← HT.out])
        go_ret2
        rw [HPP.out]
        exact ⟨outP_none _ _, HB.out⟩
    · obtain rfl : j = len := by omega
      have hall : sizesE xss = 0 := sizesE_all xss (fun t ht => HG.out t (by rw [HN.out] at ht; exact ht))
      have HZ := hide (sizesE_ok xss hall)
      have HD2 : Hid (dimsP k es ps lo hi st xss = if (shapeP k es ps lo hi st xss).2 ≠ 0 then ([], (shapeP k es ps lo hi st xss).2) else if sizeE (shapeP k es ps lo hi st xss).1 ≠ 0 then ([], sizeE (shapeP k es ps lo hi st xss).1) else ((shapeP k es ps lo hi st xss).1, 0)) := by
        rw [Hid, HDP.out, HN.out, if_neg (by rw [HC1.out]; simp), if_neg (by rw [hall]; simp)]
      have HCS := hide (ruled_any k x _ _ _ es _ _ _ ps _ _ _ lo _ _ _ hi _ _ _ st _ _ cap xss wr (HE.out.below HB.out) (HP.out.below HB.out) (HLO.out.below HB.out) (HHI.out.below HB.out) (HST.out.below HB.out) (H.out.below HB.out) hcap hlen b0 b1 b2 b3 b4 HZ.out HC1.out)
      obtain ⟨⟨L, E⟩, hLE⟩ : ∃ r, r = shapeP k es ps lo hi st xss := ⟨_, rfl⟩
      rw [← hLE] at HCS HD2
      have hd2 := HD2.out
      simp only at hd2
      obtain ⟨o0, o1, o2, o3, o4, o5, o6⟩ := HO.out.cells
      clear hall hLE HDP HD2
      by_cases c3 : E = 0
      case neg =>
        have q : (E != 0) = true := by simp [c3]
        rw [if_pos c3] at hd2
        have HPP := hide hd2
        clear hd2 c3
        go_wp2_with (go_at_call 30; refine HCS.out.mono ?_; rintro e w1 ⟨⟨Z, nz, cz, rfl, hi1, hnc⟩, hb⟩; have HB2 := hide (Below.on HB.out hb); clear hi1 hb)
        go_ret2
        rw [HPP.out]
        exact ⟨outP_none _ _, HB2.out⟩
      subst c3
      rw [if_neg (by simp)] at hd2
      obtain ⟨S, hS⟩ : ∃ S, S = sizeE L := ⟨_, rfl⟩
      have HSS := hide hS
      rw [← hS] at hd2
      clear hS
      by_cases c4 : S = 0
      · subst c4
        rw [if_neg (by simp)] at hd2
        have HPP := hide hd2
        clear hd2
        go_wp2_with (first
          | (go_at_call 30; refine HCS.out.mono ?_; rintro e w1 ⟨⟨Z, nz, cz, rfl, hi1, hnc⟩, hb⟩; have HI1 : Hid (Ints w1 Z nz L) := hi1; have HB2 := hide (Below.on HB.out hb); clear hi1 hb)
          | (go_at_call 15; refine (rsize_any _ _ _ L _ HI1.out).mono ?_; rintro e w' ⟨rfl, hw'⟩; obtain rfl := hw'.symm; rw [← HSS.out]))
        go_ret2
        rw [HPP.out]
        exact ⟨⟨_, _, _, rfl, HI1.out, hnc⟩, HB2.out⟩
      · have q : (S != 0) = true := by simp [c4]
        rw [if_pos c4] at hd2
        have HPP := hide hd2
        clear hd2 c4
        go_wp2_with (first
          | (go_at_call 30; refine HCS.out.mono ?_; rintro e w1 ⟨⟨Z, nz, cz, rfl, hi1, hnc⟩, hb⟩; have HI1 : Hid (Ints w1 Z nz L) := hi1; have HB2 := hide (Below.on HB.out hb); clear hi1 hb)
          | (go_at_call 15; refine (rsize_any _ _ _ L _ HI1.out).mono ?_; rintro e w' ⟨rfl, hw'⟩; obtain rfl := hw'.symm; rw [← HSS.out]))
        go_ret2
        rw [HPP.out]
        exact ⟨outP_none _ _, HB2.out⟩

end Go.Proofs.Ytmpigjdkkbfbcaa.V
namespace Go.Proofs.Ytmpigjdkkbfbcaa.V
set_option maxRecDepth 20000
open Go.RowKit

/-- What an operation costs that makes L. -/
def wtV (k : Int) (ps : List Int) (xss : List (List Int)) (L : List Int) : Int :=
  IntKind.i64.wrap (prod L + tot 0 xss + (if k = 16 then 2 * prod L * prod (taken (xss[0]?.getD []) ps) else if k = 17 then prod L * xss.length else 0))
def weightP (k : Int) (es ps lo hi st : List Int) (xss : List (List Int)) : Int × Int :=
  if (dimsP k es ps lo hi st xss).2 ≠ 0 then (0, (dimsP k es ps lo hi st xss).2) else (wtV k ps xss (dimsP k es ps lo hi st xss).1, 0)
theorem dims_ok {k : Int} {es ps lo hi st : List Int} {xss : List (List Int)} (h : (dimsP k es ps lo hi st xss).2 = 0) :
    takesE k xss.length = 0 ∧ (∀ d ∈ xss, sizeE d = 0) ∧ sizeE (dimsP k es ps lo hi st xss).1 = 0 ∧ (k = 16 → dotB ps st lo hi (xss[0]?.getD []) (xss[1]?.getD []) = true) := by
  unfold dimsP at h ⊢
  by_cases c1 : takesE k xss.length ≠ 0
  · rw [if_pos c1] at h; exact absurd h c1
  rw [if_neg c1] at h ⊢
  by_cases c2 : sizesE xss ≠ 0
  · rw [if_pos c2] at h; exact absurd h c2
  rw [if_neg c2] at h ⊢
  by_cases c3 : (shapeP k es ps lo hi st xss).2 ≠ 0
  · rw [if_pos c3] at h; exact absurd h c3
  rw [if_neg c3] at h ⊢
  by_cases c4 : sizeE (shapeP k es ps lo hi st xss).1 ≠ 0
  · rw [if_pos c4] at h; exact absurd h c4
  rw [if_neg c4]
  refine ⟨Decidable.not_not.1 c1, sizesE_ok xss (Decidable.not_not.1 c2), Decidable.not_not.1 c4, fun hk => ?_⟩
  subst hk
  have e : shapeP 16 es ps lo hi st xss = dotP ps st lo hi (xss[0]?.getD []) (xss[1]?.getD []) := by simp [shapeP]
  rw [e] at c3
  unfold dotP at c3
  cases hd : dotB ps st lo hi (xss[0]?.getD []) (xss[1]?.getD []) with
  | true => rfl
  | false => rw [hd] at c3; simp at c3
theorem dot_in {ps st lo hi a b : List Int} (h : dotB ps st lo hi a b = true) : (∀ y ∈ ps, 0 ≤ y ∧ y < a.length) ∧ ps.length ≤ a.length := by
  unfold dotB at h
  simp only [Bool.and_eq_true] at h
  have h1 := once_iff.1 ((onceB_iff _ _).1 h.1)
  have h2 := once_len ((onceB_iff _ _).1 h.1)
  refine ⟨fun y hy => h1.1 y (List.mem_append.2 (.inr hy)), ?_⟩
  rw [List.length_append] at h2
  omega
theorem size_lo {xs : List Int} (h : sizeE xs = 0) : 0 ≤ prod xs ∧ prod xs ≤ 65536 := by
  obtain ⟨z1, z2, z3, z4⟩ := sizeE_ok h
  by_cases c : ∀ x ∈ xs, 1 ≤ x
  · exact ⟨by have := prod_pos xs c; omega, (z3 c).1⟩
  · have : (0 : Int) ∈ xs := by
      simp only [Classical.not_forall] at c
      obtain ⟨x, hx, hn⟩ := c
      have := z2 x hx
      obtain rfl : x = 0 := by omega
      exact hx
    rw [prod_zero this]
    exact ⟨by omega, by omega⟩

set_option maxRecDepth 100000 in
set_option maxHeartbeats 4000000 in
theorem Weight_any (k x : Int) (ea : Option Addr) (el ec : Nat) (es : List Int) (pa : Option Addr) (pl pc : Nat) (ps : List Int) (la : Option Addr) (ll lc : Nat) (lo : List Int) (ha : Option Addr) (hl hc : Nat) (hi : List Int) (ta : Option Addr) (tl tc : Nat) (st : List Int) (A : Option Addr) (len cap : Nat) (xss : List (List Int)) (w : World)
    (he : Lst w ea el ec es) (hp : Lst w pa pl pc ps) (hlo : Lst w la ll lc lo) (hhi : Lst w ha hl hc hi) (hst : Lst w ta tl tc st) (h : Lsts w A len xss) (hcap : len ≤ cap) (hlen : len ≤ 1048576) (b0 : el ≤ 1048576) (b1 : pl ≤ 1048576) (b2 : ll ≤ 1048576) (b3 : hl ≤ 1048576) (b4 : tl ≤ 1048576) :
    Calls Try.prog 20 #[.agg #[.int .i64 k, .slice ea el ec, .slice pa pl pc, .slice la ll lc, .slice ha hl hc, .slice ta tl tc, .int .i64 x], .slice A len cap] w fun e w' => e = .returned (.tuple #[.int .i64 (weightP k es ps lo hi st xss).1, .int .i64 (weightP k es ps lo hi st xss).2]) ∧ Below w.heap.size w w' := by
  have hmx := h.2.1
  have HB1 := hide ((Below.refl w.heap.size w).alloc (Nat.le_refl _) (.cells #[.int .i64 k, .slice ea el ec, .slice pa pl pc, .slice la ll lc, .slice ha hl hc, .slice ta tl tc, .int .i64 x] 37))
  have HOP := hide (OpAt.new w k (.slice ea el ec) (.slice pa pl pc) (.slice la ll lc) (.slice ha hl hc) (.slice ta tl tc) x)
  have HW := hide (show weightP k es ps lo hi st xss = if (dimsP k es ps lo hi st xss).2 ≠ 0 then (0, (dimsP k es ps lo hi st xss).2) else (wtV k ps xss (dimsP k es ps lo hi st xss).1, 0) from rfl)
  have HK := hide (@dims_ok k es ps lo hi st xss)
  have HC := hide (Dims_any k x ea el ec es pa pl pc ps la ll lc lo ha hl hc hi ta tl tc st A len cap xss (w.alloc (.cells #[.int .i64 k, .slice ea el ec, .slice pa pl pc, .slice la ll lc, .slice ha hl hc, .slice ta tl tc, .int .i64 x] 37)) (he.below HB1.out) (hp.below HB1.out) (hlo.below HB1.out) (hhi.below HB1.out) (hst.below HB1.out) (h.below HB1.out) hcap hlen b0 b1 b2 b3 b4)
  obtain ⟨⟨L, E⟩, hLE⟩ : ∃ r, r = dimsP k es ps lo hi st xss := ⟨_, rfl⟩
  rw [← hLE] at HW HK HC
  have H := hide h
  have HN := hide h.1
  have HP := hide hp
  obtain ⟨o0, o1, o2, o3, o4, o5, o6⟩ := HOP.out.cells
  clear h he hp hlo hhi hst hLE
  by_cases c1 : E = 0
  case neg =>
    have hw : weightP k es ps lo hi st xss = (0, E) := by rw [HW.out, if_pos c1]
    rw [hw]
    have q : (E != 0) = true := by simp [c1]
    clear hw c1 HK
    go_enter Try.func20, Try.ntmps20
    go_wp2_with (go_at_call 23; refine HC.out.mono ?_; rintro e w1 ⟨⟨Z, nz, cz, rfl, hi1, hnc⟩, hb⟩; have HB2 := hide (Below.on HB1.out hb); clear hi1 hb)
    go_ret2
    exact ⟨rfl, HB2.out⟩
  subst c1
  obtain ⟨k1, k2, k3, k4⟩ := HK.out rfl
  have hw : weightP k es ps lo hi st xss = (wtV k ps xss L, 0) := by rw [HW.out, if_neg (by simp)]
  rw [hw]
  have HZ := hide k2
  have HZL : Hid (sizeE L = 0) := k3
  have HDB := hide k4
  obtain ⟨M, hM⟩ : ∃ M, M = prod L := ⟨_, rfl⟩
  have hM2 := size_lo k3
  rw [← hM] at hM2
  have HM := hide hM
  have HM2 := hide hM2
  have HWV : Hid (wtV k ps xss L = IntKind.i64.wrap (M + tot 0 xss + (if k = 16 then 2 * M * prod (taken (xss[0]?.getD []) ps) else if k = 17 then M * xss.length else 0))) := by rw [Hid, wtV, hM]
  have HKT := hide (takes_ok k1)
  have hlt2 : k = 16 → len = 2 := fun e => by have := HKT.out; rw [HN.out] at this; omega
  have HL2 := hide hlt2
  clear hw k1 k2 k3 k4 HK HW hM hM2 hlt2
  go_enter Try.func20, Try.ntmps20
  go_wp2_with (first
    | (go_at_call 23; refine HC.out.mono ?_; rintro e w1 ⟨⟨Z, nz, cz, rfl, hi1, hnc⟩, hb⟩; have HI1 : Hid (Ints w1 Z nz L) := hi1; have HB2 := hide (Below.on HB1.out hb); have HO2 := hide (HOP.out.below hb); clear hi1 hb o0 o1 o2 o3 o4 o5 o6; obtain ⟨o0, o1, o2, o3, o4, o5, o6⟩ := HO2.out.cells)
    | (go_at_call 31; refine (count_any _ _ _ L _ HI1.out (count_ok HZL.out)).mono ?_; rintro e w' ⟨rfl, hw'⟩; obtain rfl := hw'.symm; rw [← HM.out]))
  go_loop [9, 26] (fun s i => ∃ (j : Nat) (T : Int), j ≤ len ∧ i = .int .i64 j ∧ s = .int .i64 T ∧ T = IntKind.i64.wrap (M + tot 0 (xss.take j))) (fun _ i => len - (intOf i).toNat)
  case atStart => exact ⟨0, M, Nat.zero_le _, rfl, rfl, by have := HM2.out; simp only [List.take_zero, tot, Int.add_zero]; rw [wrap_in _ (by omega) (by omega)]⟩
  case round =>
    obtain ⟨j, T, hj, rfl, rfl, hT⟩ := hrel
    have HT := hide hT
    clear hT
    by_cases hlt : j < len
    · obtain ⟨b, off, rfl, hc⟩ := H.out.at (by omega)
      obtain ⟨X, m, c, hcj0, hlj⟩ := hc j hlt
      have hcj : w1.cell? ⟨b, off + j, none⟩ = some (.slice X m c) := (HB2.out.cell (p := ⟨b, off + j, none⟩) (lt_of_cell hcj0)).trans hcj0
      have HLJ := hide (hlj.below HB2.out)
      have HZJ := hide (HZ.out _ (mem_getDL xss j (by rw [HN.out]; exact hlt)))
      have HTS := hide (tot_take_succ 0 xss j (by rw [HN.out]; exact hlt))
      obtain ⟨D, hD⟩ : ∃ D, D = prod (xss[j]?.getD []) := ⟨_, rfl⟩
      have HD := hide hD
      clear hlj hcj0 hc hD o0 o1 o2 o3 o4 o5 o6
      go_wp2_with (go_at_call 31; refine (count_any _ _ _ (xss[j]?.getD []) _ HLJ.out.1 (count_ok HZJ.out)).mono ?_; rintro e w' ⟨rfl, hw'⟩; obtain rfl := hw'.symm; rw [← HD.out])
      go_round
      case rel => exact ⟨j + 1, _, by omega, by go_num, rfl, by rw [HTS.out, HT.out, w64, wrap_addl, HD.out]; congr 1; omega⟩
      case measure => simp [intOf]; omega
    · obtain rfl : j = len := by omega
      have HT2 : Hid (T = IntKind.i64.wrap (M + tot 0 xss)) := by
        have := HT.out
        rw [List.take_of_length_le (by rw [HN.out]; exact Nat.le_refl _)] at this
        exact this
      clear HT
      by_cases c16 : k = 16
      · subst c16
        have hl2 := HL2.out rfl
        obtain ⟨b, off, rfl, hc⟩ := H.out.at (by omega)
        obtain ⟨X0, m0, c0, hc0, hl0⟩ := hc 0 (by omega)
        have hc0' : w.cell? ⟨b, off, none⟩ = some (.slice X0 m0 c0) := hc0
        obtain ⟨ds, hds⟩ : ∃ ds, ds = xss[0]?.getD [] := ⟨_, rfl⟩
        have HDI := hide (dot_in (HDB.out rfl))
        have hzd : sizeE ds = 0 := by rw [hds]; exact HZ.out _ (mem_getDL xss 0 (by rw [HN.out]; omega))
        rw [← hds] at hl0 HWV HDI
        have HL0 := hide (hl0.below HB2.out)
        have h06 : m0 ≤ 6 := by have := (sizeE_ok hzd).1; have := hl0.1.1; omega
        have q0 : w1.cell? ⟨b, off, none⟩ = some (.slice X0 m0 c0) := (HB2.out.cell (p := ⟨b, off, none⟩) (lt_of_cell hc0')).trans hc0'
        have HM0 := hide hl0.1.1
        have hp6 : pl ≤ 6 := by have := HDI.out.2; have := HP.out.1.1; have := HM0.out; omega
        have HIN : Hid (∀ y ∈ ps, 0 ≤ y ∧ y < (m0 : Int)) := fun y hy => by have := HDI.out.1 y hy; have := HM0.out; omega
        have HP2 := hide (HP.out.below HB2.out)
        have i0 : (0 : Int) < (j : Int) := by omega
        clear hc hc0 hc0' hl0 hds hzd HM0
        go_wp2_with fail
        go_region_with (first
          | (go_at_call 32; refine (these_any _ _ _ ds _ _ _ ps _ (HL0.out.below ((Below.refl _ _).drew)).1 (HP2.out.below ((Below.refl _ _).drew)).1 HIN.out hp6).mono ?_; rintro e w2 ⟨⟨v2, rfl, X2, n2, d2, rfl, hl2', _⟩, hb⟩; have HL2' := hide hl2'; have HB3 := hide (Below.on HB2.out.drew hb); clear hl2' hb)
          | (go_at_call 31; refine (count_wrap _ _ _ (taken ds ps) _ HL2'.out.1).mono ?_; rintro e w' ⟨rfl, hw'⟩; obtain rfl := hw'.symm))
        all_goals go_wp2
        all_goals go_ret2
        all_goals refine ⟨?_, HB3.out⟩
        all_goals rw [HWV.out, HT2.out]
        all_goals simp only [if_true, w64, wrap_addl, wrap_addr, wrap_mull, wrap_mulr]
        all_goals rfl
      by_cases c17 : k = 17
      · subst c17
        have e17 : xss.length = j := HN.out
        have HNN := hide e17
        clear e17
        go_wp2
        go_ret2
        refine ⟨?_, HB2.out⟩
        rw [HWV.out, HT2.out, HNN.out]
        simp [w64, wrap_addl, wrap_addr]
      · have q16 : (k == 16) = false := by simpa using c16
        have q17 : (k == 17) = false := by simpa using c17
        have HWX : Hid (wtV k ps xss L = T) := by rw [Hid, HWV.out, HT2.out, if_neg c16, if_neg c17, Int.add_zero]
        clear c16 c17
        go_wp2
        go_ret2
        rw [HWX.out]
        exact ⟨rfl, HB2.out⟩
end Go.Proofs.Ytmpigjdkkbfbcaa.V
namespace Go.Proofs.Ytmpigjdkkbfbcaa.V
set_option maxRecDepth 20000
open Go.RowKit

/-- The dimensions that are made, or [0], if one that is summed is 0. -/
def dz (L T : List Int) (j : Nat) : List Int := if (0 : Int) ∈ T.take j then [0] else L
theorem dz_succ {L T : List Int} {j : Nat} (hj : j < T.length) : dz L T (j + 1) = if T[j]?.getD 0 = 0 then [0] else dz L T j := by
  have e : T.take (j + 1) = T.take j ++ [T[j]?.getD 0] := by
    rw [List.take_add_one]
    congr 1
    simp [hj]
  unfold dz
  rw [e]
  by_cases c : T[j]?.getD 0 = 0
  · rw [if_pos c, if_pos (by rw [c]; simp)]
  · rw [if_neg c]
    have : ((0 : Int) ∈ T.take j ++ [T[j]?.getD 0]) ↔ (0 : Int) ∈ T.take j := by
      rw [List.mem_append, List.mem_singleton]
      exact ⟨fun h => h.resolve_right (fun e => c e.symm), .inl⟩
    simp only [this]
/-- What is made, or 0. -/
def nz0 (M : Int) (T : List Int) : Int := if (0 : Int) ∈ T then 0 else M
theorem nz0_size {L T : List Int} {j : Nat} (h : sizeE L = 0) (hj : T.length ≤ j) : sizeN (dz L T j) = nz0 (prod L) T := by
  unfold dz nz0
  rw [List.take_of_length_le hj]
  by_cases c : (0 : Int) ∈ T
  · rw [if_pos c, if_pos c]; rfl
  · rw [if_neg c, if_neg c, size_prod h]
theorem nz0_mul (M : Int) (T : List Int) : nz0 M T * prod T = M * prod T := by
  unfold nz0
  by_cases c : (0 : Int) ∈ T
  · rw [if_pos c, prod_zero c]; simp
  · rw [if_neg c]
theorem nz0_bd {M : Int} (T : List Int) (h : 0 ≤ M ∧ M ≤ 65536) : 0 ≤ nz0 M T ∧ nz0 M T ≤ 65536 := by
  unfold nz0
  by_cases c : (0 : Int) ∈ T
  · rw [if_pos c]; omega
  · rw [if_neg c]; exact h

set_option maxRecDepth 100000 in
set_option maxHeartbeats 4000000 in
theorem rWeight_any (k x : Int) (ea : Option Addr) (el ec : Nat) (es : List Int) (pa : Option Addr) (pl pc : Nat) (ps : List Int) (la : Option Addr) (ll lc : Nat) (lo : List Int) (ha : Option Addr) (hl hc : Nat) (hi : List Int) (ta : Option Addr) (tl tc : Nat) (st : List Int) (A : Option Addr) (len cap : Nat) (xss : List (List Int)) (w : World)
    (he : Lst w ea el ec es) (hp : Lst w pa pl pc ps) (hlo : Lst w la ll lc lo) (hhi : Lst w ha hl hc hi) (hst : Lst w ta tl tc st) (h : Lsts w A len xss) (hcap : len ≤ cap) (hlen : len ≤ 1048576) (b0 : el ≤ 1048576) (b1 : pl ≤ 1048576) (b2 : ll ≤ 1048576) (b3 : hl ≤ 1048576) (b4 : tl ≤ 1048576) :
    Calls Try.prog 22 #[.agg #[.int .i64 k, .slice ea el ec, .slice pa pl pc, .slice la ll lc, .slice ha hl hc, .slice ta tl tc, .int .i64 x], .slice A len cap] w fun e w' => e = .returned (.tuple #[.int .i64 (weightP k es ps lo hi st xss).1, .int .i64 (weightP k es ps lo hi st xss).2]) ∧ Below w.heap.size w w' := by
  have hmx := h.2.1
  have HB1 := hide ((Below.refl w.heap.size w).alloc (Nat.le_refl _) (.cells #[.int .i64 k, .slice ea el ec, .slice pa pl pc, .slice la ll lc, .slice ha hl hc, .slice ta tl tc, .int .i64 x] 37))
  have HOP := hide (OpAt.new w k (.slice ea el ec) (.slice pa pl pc) (.slice la ll lc) (.slice ha hl hc) (.slice ta tl tc) x)
  have HW := hide (show weightP k es ps lo hi st xss = if (dimsP k es ps lo hi st xss).2 ≠ 0 then (0, (dimsP k es ps lo hi st xss).2) else (wtV k ps xss (dimsP k es ps lo hi st xss).1, 0) from rfl)
  have HK := hide (@dims_ok k es ps lo hi st xss)
  have HC := hide (rDims_any k x ea el ec es pa pl pc ps la ll lc lo ha hl hc hi ta tl tc st A len cap xss (w.alloc (.cells #[.int .i64 k, .slice ea el ec, .slice pa pl pc, .slice la ll lc, .slice ha hl hc, .slice ta tl tc, .int .i64 x] 37)) (he.below HB1.out) (hp.below HB1.out) (hlo.below HB1.out) (hhi.below HB1.out) (hst.below HB1.out) (h.below HB1.out) hcap hlen b0 b1 b2 b3 b4)
  obtain ⟨⟨L, E⟩, hLE⟩ : ∃ r, r = dimsP k es ps lo hi st xss := ⟨_, rfl⟩
  rw [← hLE] at HW HK HC
  have H := hide h
  have HN := hide h.1
  have HP := hide hp
  obtain ⟨o0, o1, o2, o3, o4, o5, o6⟩ := HOP.out.cells
  clear h he hp hlo hhi hst hLE
  by_cases c1 : E = 0
  case neg =>
    have hw : weightP k es ps lo hi st xss = (0, E) := by rw [HW.out, if_pos c1]
    rw [hw]
    have q : (E != 0) = true := by simp [c1]
    clear hw c1 HK
    go_enter Try.func22, Try.ntmps22
    go_wp2_with (go_at_call 16; refine HC.out.mono ?_; rintro e w1 ⟨⟨Z, nz, cz, rfl, hi1, hnc⟩, hb⟩; have HB2 := hide (Below.on HB1.out hb); clear hi1 hb)
    go_ret2
    exact ⟨rfl, HB2.out⟩
  subst c1
  obtain ⟨k1, k2, k3, k4⟩ := HK.out rfl
  have hw : weightP k es ps lo hi st xss = (wtV k ps xss L, 0) := by rw [HW.out, if_neg (by simp)]
  rw [hw]
  have HZ := hide k2
  have HZL : Hid (sizeE L = 0) := k3
  have HDB := hide k4
  obtain ⟨M, hM⟩ : ∃ M, M = prod L := ⟨_, rfl⟩
  have hM2 := size_lo k3
  rw [← hM] at hM2
  have HM := hide hM
  have HM2 := hide hM2
  have HMS : Hid (sizeN L = M) := by rw [Hid, size_prod k3, hM]
  have HWV : Hid (wtV k ps xss L = IntKind.i64.wrap (M + tot 0 xss + (if k = 16 then 2 * M * prod (taken (xss[0]?.getD []) ps) else if k = 17 then M * xss.length else 0))) := by rw [Hid, wtV, hM]
  have HKT := hide (takes_ok k1)
  have hlt2 : k = 16 → len = 2 := fun e => by have := HKT.out; rw [HN.out] at this; omega
  have HL2 := hide hlt2
  clear hw k1 k2 k3 k4 HK HW hM hM2 hlt2
  by_cases c16 : k = 16
  · subst c16
    have hl2 := HL2.out rfl
    obtain ⟨b, off, rfl, hc⟩ := H.out.at (by omega)
    obtain ⟨X0, m0, c0, hc0, hl0⟩ := hc 0 (by omega)
    have hc0' : w.cell? ⟨b, off, none⟩ = some (.slice X0 m0 c0) := hc0
    obtain ⟨ds, hds⟩ : ∃ ds, ds = xss[0]?.getD [] := ⟨_, rfl⟩
    have HDI := hide (dot_in (HDB.out rfl))
    rw [← hds] at hl0 HWV HDI
    have HL0 := hide hl0
    have HC0 := hide hc0'
    have HM0 := hide hl0.1.1
    have HIN : Hid (∀ y ∈ ps, 0 ≤ y ∧ y < (m0 : Int)) := fun y hy => by have := HDI.out.1 y hy; have := HM0.out; omega
    have i0 : (0 : Int) < (len : Int) := by omega
    have hmp := HP.out.1.2.1
    obtain ⟨T, hT⟩ : ∃ T, T = taken ds ps := ⟨_, rfl⟩
    have HTT := hide hT
    have hTl : T.length = pl := by rw [hT, taken_length]; exact HP.out.1.1
    have HTL := hide hTl
    rw [← hT] at HWV
    clear hc hc0 hc0' hl0 hds hT hTl hl2
    go_enter Try.func22, Try.ntmps22
    go_wp2_with (first
      | (go_at_call 16; refine HC.out.mono ?_; rintro e w1 ⟨⟨Z, nz, cz, rfl, hi1, hnc⟩, hb⟩; have HI1 : Hid (Ints w1 Z nz L) := hi1; have HB2 := hide (Below.on HB1.out hb); have HO2 := hide (HOP.out.below hb); clear hi1 hb o0 o1 o2 o3 o4 o5 o6; obtain ⟨o0, o1, o2, o3, o4, o5, o6⟩ := HO2.out.cells)
      | (go_at_call 15; refine (rsize_any _ _ _ L _ HI1.out).mono ?_; rintro e w' ⟨rfl, hw'⟩; obtain rfl := hw'.symm; rw [HMS.out]))
    go_loopw [6, 41] (fun v i wr => ∃ (j : Nat) (X : Option Addr) (n c : Nat), j ≤ pl ∧ i = .int .i64 j ∧ v = .slice X n c ∧ Ints wr X n (dz L T j) ∧ OpAt wr w.heap.size 16 (.slice ea el ec) (.slice pa pl pc) (.slice la ll lc) (.slice ha hl hc) (.slice ta tl tc) x ∧ Below w.heap.size w wr) (fun _ i _ => pl - (intOf i).toNat)
    case atStart => exact ⟨0, Z, nz, cz, Nat.zero_le _, rfl, rfl, by simpa [dz] using HI1.out, HO2.out, HB2.out⟩
    case round =>
      obtain ⟨j, X, n, c, hj, rfl, rfl, hI, hO, hB⟩ := hrel
      have HI := hide hI
      have HO := hide hO
      have HB := hide hB
      clear hI hO hB o0 o1 o2 o3 o4 o5 o6
      by_cases hlt : j < pl
      · obtain ⟨b', off', rfl, hb', hc'⟩ := HP.out.1.at (by omega)
        have HKL : Hid (j < ps.length) := by rw [Hid, HP.out.1.1]; exact hlt
        have hy := HIN.out _ (mem_getD ps j HKL.out)
        obtain ⟨m, hm'⟩ : ∃ m : Nat, ps[j]?.getD 0 = (m : Int) := ⟨(ps[j]?.getD 0).toNat, by omega⟩
        have hml : m < m0 := by omega
        obtain ⟨bd, offd, rfl, hbd, hcd⟩ := HL0.out.1.at (by omega)
        have hcy : wr.cell? ⟨b', off' + j, none⟩ = some (.int .i64 (m : Int)) := by rw [← hm']; exact (HB.out.cell (p := ⟨b', off' + j, none⟩) hb').trans (hc' j hlt)
        have q0 : wr.cell? ⟨b, off, none⟩ = some (.slice (some ⟨bd, offd, none⟩) m0 c0) := (HB.out.cell (p := ⟨b, off, none⟩) (lt_of_cell HC0.out)).trans HC0.out
        have hcx : wr.cell? ⟨bd, offd + m, none⟩ = some (.int .i64 (ds[m]?.getD 0)) := (HB.out.cell (p := ⟨bd, offd + m, none⟩) hbd).trans (hcd m hml)
        have hTj : T[j]?.getD 0 = ds[m]?.getD 0 := by rw [HTT.out]; exact taken_getD ds ps j m HKL.out hm'
        obtain ⟨D, hD⟩ : ∃ D, D = ds[m]?.getD 0 := ⟨_, rfl⟩
        rw [← hD] at hcx hTj
        have HDZ := hide (dz_succ (L := L) (T := T) (j := j) (by rw [HTL.out]; exact hlt))
        rw [hTj] at HDZ
        have i1 : (0 : Int) ≤ (m : Int) := Int.natCast_nonneg _
        have i2 : (m : Int) < (m0 : Int) := by omega
        clear hc' hcd hy hm' hD hTj
        by_cases cD : D = 0
        · subst cD
          have HL1 := hide (lst_one wr 0 (by omega) 3)
          go_wp2
          go_roundw
          case rel => exact ⟨j + 1, _, _, _, by omega, by go_num, rfl, by rw [HDZ.out, if_pos rfl]; exact HL1.out.1, HO.out.alloc _, HB.out.alloc HB.out.size _⟩
          case measure => simp [intOf]; omega
        · have qD : (D == 0) = false := by simpa using cD
          have HDZ2 : Hid (dz L T (j + 1) = dz L T j) := by rw [Hid, HDZ.out, if_neg cD]
          clear cD HDZ
          go_wp2
          go_roundw
          case rel => exact ⟨j + 1, _, _, _, by omega, by go_num, rfl, by rw [HDZ2.out]; exact HI.out, HO.out, HB.out⟩
          case measure => simp [intOf]; omega
      · obtain rfl : j = pl := by omega
        obtain ⟨N0, hN0⟩ : ∃ N0, N0 = nz0 M T := ⟨_, rfl⟩
        have HN0 := hide hN0
        have HNZ : Hid (sizeN (dz L T j) = N0) := by rw [Hid, hN0, HM.out]; exact nz0_size HZL.out (by rw [HTL.out]; exact Nat.le_refl _)
        have HNB := hide (nz0_bd T HM2.out)
        rw [← hN0] at HNB
        clear hN0
        obtain ⟨o0, o1, o2, o3, o4, o5, o6⟩ := HO.out.cells
        go_wp2_with (go_at_call 15; refine (rsize_any _ _ _ (dz L T j) _ HI.out).mono ?_; rintro e w' ⟨rfl, hw'⟩; obtain rfl := hw'.symm; rw [HNZ.out])
        go_loop [12, 62] (fun s i => ∃ (t : Nat) (V : Int), t ≤ j ∧ i = .int .i64 t ∧ s = .int .i64 V ∧ V = IntKind.i64.wrap (N0 * prod (T.take t))) (fun _ i => j - (intOf i).toNat)
        case atStart => exact ⟨0, N0, Nat.zero_le _, rfl, rfl, by have := HNB.out; rw [List.take_zero, prod, Int.mul_one, wrap_in _ (by omega) (by omega)]⟩
        case round =>
          obtain ⟨t, V, ht, rfl, rfl, hV⟩ := hrel
          have HV := hide hV
          clear hV
          by_cases hlt2 : t < j
          · obtain ⟨b', off', rfl, hb', hc'⟩ := HP.out.1.at (by omega)
            have HKL : Hid (t < ps.length) := by rw [Hid, HP.out.1.1]; exact hlt2
            have hy := HIN.out _ (mem_getD ps t HKL.out)
            obtain ⟨m, hm'⟩ : ∃ m : Nat, ps[t]?.getD 0 = (m : Int) := ⟨(ps[t]?.getD 0).toNat, by omega⟩
            have hml : m < m0 := by omega
            obtain ⟨bd, offd, rfl, hbd, hcd⟩ := HL0.out.1.at (by omega)
            have hcy : wr.cell? ⟨b', off' + t, none⟩ = some (.int .i64 (m : Int)) := by rw [← hm']; exact (HB.out.cell (p := ⟨b', off' + t, none⟩) hb').trans (hc' t hlt2)
            have q0 : wr.cell? ⟨b, off, none⟩ = some (.slice (some ⟨bd, offd, none⟩) m0 c0) := (HB.out.cell (p := ⟨b, off, none⟩) (lt_of_cell HC0.out)).trans HC0.out
            have hcx : wr.cell? ⟨bd, offd + m, none⟩ = some (.int .i64 (ds[m]?.getD 0)) := (HB.out.cell (p := ⟨bd, offd + m, none⟩) hbd).trans (hcd m hml)
            have hTj : T[t]?.getD 0 = ds[m]?.getD 0 := by rw [HTT.out]; exact taken_getD ds ps t m HKL.out hm'
            obtain ⟨D, hD⟩ : ∃ D, D = ds[m]?.getD 0 := ⟨_, rfl⟩
            rw [← hD] at hcx hTj
            have HPS := hide (prod_take_succ T t (by rw [HTL.out]; exact hlt2))
            rw [hTj] at HPS
            have i1 : (0 : Int) ≤ (m : Int) := Int.natCast_nonneg _
            have i2 : (m : Int) < (m0 : Int) := by omega
            clear hc' hcd hy hm' hD hTj
            go_wp2
            go_round
            case rel => exact ⟨t + 1, _, by omega, by go_num, rfl, by rw [HPS.out, HV.out, w64, wrap_mull, Int.mul_assoc]⟩
            case measure => simp [intOf]; omega
          · obtain rfl : t = j := by omega
            have HV2 : Hid (V = IntKind.i64.wrap (M * prod T)) := by
              have := HV.out
              rw [List.take_of_length_le (by rw [HTL.out]; exact Nat.le_refl _), HN0.out, nz0_mul] at this
              exact this
            clear HV hlt hlt2
            have HX16 := hide o0
            go_wp2
            go_loop [8, 85] (fun s i => ∃ (j3 : Nat) (U : Int), j3 ≤ len ∧ i = .int .i64 j3 ∧ s = .int .i64 U ∧ U = IntKind.i64.wrap (M + 2 * (M * prod T) + tot (0) (xss.take j3))) (fun _ i => len - (intOf i).toNat)
            case atStart => exact ⟨0, _, Nat.zero_le _, rfl, rfl, by rw [HV2.out]; simp only [List.take_zero, tot, Int.add_zero, w64, wrap_addr, wrap_mulr]⟩
            case round =>
              obtain ⟨j3, U, hj3, rfl, rfl, hU⟩ := hrel
              have HU := hide hU
              clear hU
              by_cases hlt3 : j3 < len
              · obtain ⟨b3', off3, AE, hc3⟩ := H.out.at (by omega)
                cases AE
                obtain ⟨X, m, c, hcj0, hlj⟩ := hc3 j3 hlt3
                have hcj : wr.cell? ⟨b, off + j3, none⟩ = some (.slice X m c) := (HB.out.cell (p := ⟨b, off + j3, none⟩) (lt_of_cell hcj0)).trans hcj0
                have HLJ := hide (hlj.below HB.out)
                have HZJ := hide (HZ.out _ (mem_getDL xss j3 (by rw [HN.out]; exact hlt3)))
                have HTS := hide (tot_take_succ (0) xss j3 (by rw [HN.out]; exact hlt3))
                obtain ⟨D, hD⟩ : ∃ D, D = prod (xss[j3]?.getD []) := ⟨_, rfl⟩
                have HD := hide hD
                have HSD : Hid (sizeN (xss[j3]?.getD []) = D) := by rw [Hid, size_prod HZJ.out, hD]
                clear hlj hcj0 hc3 hD
                go_wp2_with (go_at_call 15; refine (rsize_any _ _ _ (xss[j3]?.getD []) _ HLJ.out.1).mono ?_; rintro e w' ⟨rfl, hw'⟩; obtain rfl := hw'.symm; rw [HSD.out])
                go_round
                case rel => exact ⟨j3 + 1, _, by omega, by go_num, rfl, by rw [HTS.out, HU.out, ← HD.out]; simp only [w64, wrap_addl]; congr 1; omega⟩
                case measure => simp [intOf]; omega
              · obtain rfl : j3 = len := by omega
                have HU2 : Hid (U = IntKind.i64.wrap (M + 2 * (M * prod T) + tot (0) xss)) := by
                  have := HU.out
                  rw [List.take_of_length_le (by rw [HN.out]; exact Nat.le_refl _)] at this
                  exact this
                clear HU
                go_wp2
                go_ret2
                refine ⟨?_, HB.out⟩
                rw [HWV.out, HU2.out]
                simp only [if_true]
                rw [Int.mul_assoc, show M + tot 0 xss + 2 * (M * prod T) = M + 2 * (M * prod T) + tot 0 xss by omega]
                rfl
  by_cases c17 : k = 17
  · subst c17
    go_enter Try.func22, Try.ntmps22
    go_wp2_with (first
      | (go_at_call 16; refine HC.out.mono ?_; rintro e w1 ⟨⟨Z, nz, cz, rfl, hi1, hnc⟩, hb⟩; have HI1 : Hid (Ints w1 Z nz L) := hi1; have HB2 := hide (Below.on HB1.out hb); have HO2 := hide (HOP.out.below hb); clear hi1 hb o0 o1 o2 o3 o4 o5 o6; obtain ⟨o0, o1, o2, o3, o4, o5, o6⟩ := HO2.out.cells)
      | (go_at_call 15; refine (rsize_any _ _ _ L _ HI1.out).mono ?_; rintro e w' ⟨rfl, hw'⟩; obtain rfl := hw'.symm; rw [HMS.out]))
    go_loop [8, 85] (fun s i => ∃ (j3 : Nat) (U : Int), j3 ≤ len ∧ i = .int .i64 j3 ∧ s = .int .i64 U ∧ U = IntKind.i64.wrap (M + tot (M) (xss.take j3))) (fun _ i => len - (intOf i).toNat)
    case atStart => exact ⟨0, _, Nat.zero_le _, rfl, rfl, by have := HM2.out; simp only [List.take_zero, tot, Int.add_zero]; rw [wrap_in _ (by omega) (by omega)]⟩
    case round =>
      obtain ⟨j3, U, hj3, rfl, rfl, hU⟩ := hrel
      have HU := hide hU
      clear hU
      by_cases hlt3 : j3 < len
      · obtain ⟨b3', off3, rfl, hc3⟩ := H.out.at (by omega)
        obtain ⟨X, m, c, hcj0, hlj⟩ := hc3 j3 hlt3
        have hcj : w1.cell? ⟨b3', off3 + j3, none⟩ = some (.slice X m c) := (HB2.out.cell (p := ⟨b3', off3 + j3, none⟩) (lt_of_cell hcj0)).trans hcj0
        have HLJ := hide (hlj.below HB2.out)
        have HZJ := hide (HZ.out _ (mem_getDL xss j3 (by rw [HN.out]; exact hlt3)))
        have HTS := hide (tot_take_succ (M) xss j3 (by rw [HN.out]; exact hlt3))
        obtain ⟨D, hD⟩ : ∃ D, D = prod (xss[j3]?.getD []) := ⟨_, rfl⟩
        have HD := hide hD
        have HSD : Hid (sizeN (xss[j3]?.getD []) = D) := by rw [Hid, size_prod HZJ.out, hD]
        clear hlj hcj0 hc3 hD
        go_wp2_with (go_at_call 15; refine (rsize_any _ _ _ (xss[j3]?.getD []) _ HLJ.out.1).mono ?_; rintro e w' ⟨rfl, hw'⟩; obtain rfl := hw'.symm; rw [HSD.out])
        go_round
        case rel => exact ⟨j3 + 1, _, by omega, by go_num, rfl, by rw [HTS.out, HU.out, ← HD.out]; simp only [w64, wrap_addl]; congr 1; omega⟩
        case measure => simp [intOf]; omega
      · obtain rfl : j3 = len := by omega
        have HU2 : Hid (U = IntKind.i64.wrap (M + tot (M) xss)) := by
          have := HU.out
          rw [List.take_of_length_le (by rw [HN.out]; exact Nat.le_refl _)] at this
          exact this
        clear HU
        go_wp2
        go_ret2
        refine ⟨?_, HB2.out⟩
        rw [HWV.out, HU2.out, tot_each M]; simp [Int.add_assoc]
  · have q16 : (k == 16) = false := by simpa using c16
    have q17 : (k == 17) = false := by simpa using c17
    have HWV2 : Hid (wtV k ps xss L = IntKind.i64.wrap (M + tot 0 xss)) := by rw [Hid, HWV.out, if_neg c16, if_neg c17, Int.add_zero]
    clear c16 c17
    go_enter Try.func22, Try.ntmps22
    go_wp2_with (first
      | (go_at_call 16; refine HC.out.mono ?_; rintro e w1 ⟨⟨Z, nz, cz, rfl, hi1, hnc⟩, hb⟩; have HI1 : Hid (Ints w1 Z nz L) := hi1; have HB2 := hide (Below.on HB1.out hb); have HO2 := hide (HOP.out.below hb); clear hi1 hb o0 o1 o2 o3 o4 o5 o6; obtain ⟨o0, o1, o2, o3, o4, o5, o6⟩ := HO2.out.cells)
      | (go_at_call 15; refine (rsize_any _ _ _ L _ HI1.out).mono ?_; rintro e w' ⟨rfl, hw'⟩; obtain rfl := hw'.symm; rw [HMS.out]))
    go_loop [8, 85] (fun s i => ∃ (j3 : Nat) (U : Int), j3 ≤ len ∧ i = .int .i64 j3 ∧ s = .int .i64 U ∧ U = IntKind.i64.wrap (M + tot (0) (xss.take j3))) (fun _ i => len - (intOf i).toNat)
    case atStart => exact ⟨0, _, Nat.zero_le _, rfl, rfl, by have := HM2.out; simp only [List.take_zero, tot, Int.add_zero]; rw [wrap_in _ (by omega) (by omega)]⟩
    case round =>
      obtain ⟨j3, U, hj3, rfl, rfl, hU⟩ := hrel
      have HU := hide hU
      clear hU
      by_cases hlt3 : j3 < len
      · obtain ⟨b3', off3, rfl, hc3⟩ := H.out.at (by omega)
        obtain ⟨X, m, c, hcj0, hlj⟩ := hc3 j3 hlt3
        have hcj : w1.cell? ⟨b3', off3 + j3, none⟩ = some (.slice X m c) := (HB2.out.cell (p := ⟨b3', off3 + j3, none⟩) (lt_of_cell hcj0)).trans hcj0
        have HLJ := hide (hlj.below HB2.out)
        have HZJ := hide (HZ.out _ (mem_getDL xss j3 (by rw [HN.out]; exact hlt3)))
        have HTS := hide (tot_take_succ (0) xss j3 (by rw [HN.out]; exact hlt3))
        obtain ⟨D, hD⟩ : ∃ D, D = prod (xss[j3]?.getD []) := ⟨_, rfl⟩
        have HD := hide hD
        have HSD : Hid (sizeN (xss[j3]?.getD []) = D) := by rw [Hid, size_prod HZJ.out, hD]
        clear hlj hcj0 hc3 hD
        go_wp2_with (go_at_call 15; refine (rsize_any _ _ _ (xss[j3]?.getD []) _ HLJ.out.1).mono ?_; rintro e w' ⟨rfl, hw'⟩; obtain rfl := hw'.symm; rw [HSD.out])
        go_round
        case rel => exact ⟨j3 + 1, _, by omega, by go_num, rfl, by rw [HTS.out, HU.out, ← HD.out]; simp only [w64, wrap_addl]; congr 1; omega⟩
        case measure => simp [intOf]; omega
      · obtain rfl : j3 = len := by omega
        have HU2 : Hid (U = IntKind.i64.wrap (M + tot (0) xss)) := by
          have := HU.out
          rw [List.take_of_length_le (by rw [HN.out]; exact Nat.le_refl _)] at this
          exact this
        clear HU
        go_wp2
        go_ret2
        refine ⟨?_, HB2.out⟩
        rw [HWV2.out, HU2.out]
        rfl
end Go.Proofs.Ytmpigjdkkbfbcaa.V
