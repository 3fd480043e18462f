/-
  Contracts: array.Dims, adjointref2.Dims. Contract: array.Do, whatever it is asked, over what 'work' does. Contract: array.Do, where nothing is wrong, over what 'work' does.
-/
import Derived.Test.YteoobeldmicjhaaGreatPCKArrayCuts25
import Derived.Test.YteoobeldmicjhaaGreatPCKArrayCuts32
import Derived.Test.YteoobeldmicjhaaGreatPCKArrayCuts26
import Derived.Test.YteoobeldmicjhaaGreatPCKArrayCuts28
namespace Go.Proofs.YteoobeldmicjhaaGreat.V
set_option maxRecDepth 20000
open Go.RowKit

/-- What the table says of an operation on dimensions. -/
def shapeP (k : Int) (es ps lo hi st : List Int) (xss : List (List Int)) : List Int × Int := if k = 2 then (es, 0) else if k = 9 then (okL (sprE 0 (xss[0]?.getD []) (stepsV (xss[0]?.getD [])) es ps) es, sprE 0 (xss[0]?.getD []) (stepsV (xss[0]?.getD [])) es ps) else if k = 10 then sumP (xss[0]?.getD []) ps else if k = 11 then (okL (turnE 0 (xss[0]?.getD []) (stepsV (xss[0]?.getD [])) ps) (taken (xss[0]?.getD []) ps), turnE 0 (xss[0]?.getD []) (stepsV (xss[0]?.getD [])) ps) else if k = 12 then reformP (xss[0]?.getD []) es else if k = 13 then (okL (cutE 0 (xss[0]?.getD []) (stepsV (xss[0]?.getD [])) lo hi st) (cutD (xss[0]?.getD []) lo hi st), cutE 0 (xss[0]?.getD []) (stepsV (xss[0]?.getD [])) lo hi st) else if k = 14 then padP (xss[0]?.getD []) lo hi st else if k = 15 then (okL (flipE 0 (xss[0]?.getD []) (stepsV (xss[0]?.getD [])) ps) (xss[0]?.getD []), flipE 0 (xss[0]?.getD []) (stepsV (xss[0]?.getD [])) ps) else if k = 16 then dotP ps st lo hi (xss[0]?.getD []) (xss[1]?.getD []) else if k = 17 then joinP ps xss else if k = 18 then takeP (xss[0]?.getD []) (xss[1]?.getD []) else if k = 19 then putP es (xss[0]?.getD []) (xss[1]?.getD []) else sameP xss
/-- What is wrong with the first list with which something is. -/
def sizesE : List (List Int) → Int
  | [] => 0
  | d :: r => if sizeE d = 0 then sizesE r else sizeE d
theorem sizesE_ok : ∀ xss : List (List Int), sizesE xss = 0 → ∀ d ∈ xss, sizeE d = 0
  | [], _, d, hd => by cases hd
  | x :: r, h, d, hd => by
    rw [sizesE] at h
    by_cases c : sizeE x = 0
    · rw [if_pos c] at h
      rcases List.mem_cons.1 hd with e | e
      · rw [e]; exact c
      · exact sizesE_ok r h d e
    · rw [if_neg c] at h; exact absurd h c
theorem sizesE_at : ∀ (xss : List (List Int)) (j : Nat), (∀ t, t < j → sizeE (xss[t]?.getD []) = 0) → j < xss.length → sizeE (xss[j]?.getD []) ≠ 0 → sizesE xss = sizeE (xss[j]?.getD [])
  | [], j, _, h, _ => by simp at h
  | x :: r, 0, _, _, hne => by
    have e : ((x :: r)[0]?.getD []) = x := by simp
    rw [e] at hne ⊢
    rw [sizesE, if_neg hne]
  | x :: r, j + 1, h0, hj, hne => by
    have c := h0 0 (by omega)
    have e : ((x :: r)[0]?.getD []) = x := by simp
    rw [e] at c
    have e2 : ((x :: r)[j + 1]?.getD []) = r[j]?.getD [] := by simp
    rw [e2] at hne ⊢
    rw [sizesE, if_pos c]
    refine sizesE_at r j (fun t ht => ?_) (by simpa using hj) hne
    have := h0 (t + 1) (by omega)
    simpa using this
theorem sizesE_all : ∀ (xss : List (List Int)), (∀ t, t < xss.length → sizeE (xss[t]?.getD []) = 0) → sizesE xss = 0
  | [], _ => rfl
  | x :: r, h => by
    have c := h 0 (by simp)
    have e : ((x :: r)[0]?.getD []) = x := by simp
    rw [e] at c
    rw [sizesE, if_pos c]
    refine sizesE_all r (fun t ht => ?_)
    have := h (t + 1) (by simpa using ht)
    simpa using this
/-- What Dims answers. -/
def dimsP (k : Int) (es ps lo hi st : List Int) (xss : List (List Int)) : List Int × Int :=
  if takesE k xss.length ≠ 0 then ([], takesE k xss.length)
  else if sizesE xss ≠ 0 then ([], sizesE xss)
  else if (shapeP k es ps lo hi st xss).2 ≠ 0 then ([], (shapeP k es ps lo hi st xss).2)
  else if sizeE (shapeP k es ps lo hi st xss).1 ≠ 0 then ([], sizeE (shapeP k es ps lo hi st xss).1)
  else ((shapeP k es ps lo hi st xss).1, 0)
theorem takes_ok {k : Int} {n : Nat} (h : takesE k n = 0) : (k = 2 ∧ n = 0) ∨ (9 ≤ k ∧ k ≤ 15 ∧ n = 1) ∨ ((k = 16 ∨ k = 18 ∨ k = 19) ∧ n = 2) ∨ (3 ≤ k ∧ k ≤ 8 ∧ 1 ≤ n) ∨ (k = 17 ∧ 1 ≤ n) := by
  unfold takesE at h
  by_cases c1 : k = 2
  · rw [if_pos c1] at h
    by_cases d : n = 0
    · exact .inl ⟨c1, d⟩
    · rw [if_neg d] at h; omega
  rw [if_neg c1] at h
  by_cases c2 : 9 ≤ k ∧ k ≤ 15
  · rw [if_pos c2] at h
    by_cases d : n = 1
    · exact .inr (.inl ⟨c2.1, c2.2, d⟩)
    · rw [if_neg d] at h; omega
  rw [if_neg c2] at h
  by_cases c3 : (3 ≤ k ∧ k ≤ 7) ∨ k = 16 ∨ k = 18 ∨ k = 19
  · rw [if_pos c3] at h
    by_cases d : n = 2
    · omega
    · rw [if_neg d] at h; omega
  rw [if_neg c3] at h
  by_cases c4 : k = 8
  · rw [if_pos c4] at h
    by_cases d : n = 3
    · omega
    · rw [if_neg d] at h; omega
  rw [if_neg c4] at h
  by_cases c5 : k = 17
  · rw [if_pos c5] at h
    by_cases d : n = 0
    · rw [if_pos d] at h; omega
    · omega
  rw [if_neg c5] at h; omega

theorem shape_any (k x : Int) (ea : Option Addr) (el ec : Nat) (es : List Int) (pa : Option Addr) (pl pc : Nat) (ps : List Int) (la : Option Addr) (ll lc : Nat) (lo : List Int) (ha : Option Addr) (hl hc : Nat) (hi : List Int) (ta : Option Addr) (tl tc : Nat) (st : List Int) (A : Option Addr) (len cap : Nat) (xss : List (List Int)) (w : World)
    (he : Lst w ea el ec es) (hp : Lst w pa pl pc ps) (hlo : Lst w la ll lc lo) (hhi : Lst w ha hl hc hi) (hst : Lst w ta tl tc st) (h : Lsts w A len xss) (hcap : len ≤ cap) (hlen : len ≤ 1048576) (b0 : el ≤ 1048576) (b1 : pl ≤ 1048576) (b2 : ll ≤ 1048576) (b3 : hl ≤ 1048576) (b4 : tl ≤ 1048576) (hz : ∀ d ∈ xss, sizeE d = 0) (ht : takesE k len = 0) :
    Calls Tryz.prog 41 #[.agg #[.int .i64 k, .slice ea el ec, .slice pa pl pc, .slice la ll lc, .slice ha hl hc, .slice ta tl tc, .int .i64 x], .slice A len cap] w fun e w' => OutP e w' (shapeP k es ps lo hi st xss) ∧ Below w.heap.size w w' := by
  rcases takes_ok ht with ⟨rfl, hn⟩ | ⟨h9, h15, hn⟩ | ⟨hk, hn⟩ | ⟨h3, h8, hn⟩ | ⟨rfl, hn⟩
  · exact shape_2 x ea el ec es pa pl pc ps la ll lc lo ha hl hc hi ta tl tc st A len cap xss w he hp hlo hhi hst h hcap hz hn hlen b0 b1 b2 b3 b4
  · have hk : k = 9 ∨ k = 10 ∨ k = 11 ∨ k = 12 ∨ k = 13 ∨ k = 14 ∨ k = 15 := by omega
    rcases hk with rfl | rfl | rfl | rfl | rfl | rfl | rfl
    · exact shape_9 x ea el ec es pa pl pc ps la ll lc lo ha hl hc hi ta tl tc st A len cap xss w he hp hlo hhi hst h hcap hz hn hlen b0 b1 b2 b3 b4
    · exact shape_10 x ea el ec es pa pl pc ps la ll lc lo ha hl hc hi ta tl tc st A len cap xss w he hp hlo hhi hst h hcap hz hn hlen b0 b1 b2 b3 b4
    · exact shape_11 x ea el ec es pa pl pc ps la ll lc lo ha hl hc hi ta tl tc st A len cap xss w he hp hlo hhi hst h hcap hz hn hlen b0 b1 b2 b3 b4
    · exact shape_12 x ea el ec es pa pl pc ps la ll lc lo ha hl hc hi ta tl tc st A len cap xss w he hp hlo hhi hst h hcap hz hn hlen b0 b1 b2 b3 b4
    · exact shape_13 x ea el ec es pa pl pc ps la ll lc lo ha hl hc hi ta tl tc st A len cap xss w he hp hlo hhi hst h hcap hz hn hlen b0 b1 b2 b3 b4
    · exact shape_14 x ea el ec es pa pl pc ps la ll lc lo ha hl hc hi ta tl tc st A len cap xss w he hp hlo hhi hst h hcap hz hn hlen b0 b1 b2 b3 b4
    · exact shape_15 x ea el ec es pa pl pc ps la ll lc lo ha hl hc hi ta tl tc st A len cap xss w he hp hlo hhi hst h hcap hz hn hlen b0 b1 b2 b3 b4
  · rcases hk with rfl | rfl | rfl
    · exact shape_16 x ea el ec es pa pl pc ps la ll lc lo ha hl hc hi ta tl tc st A len cap xss w he hp hlo hhi hst h hcap hz hn hlen b0 b1 b2 b3 b4
    · exact shape_18 x ea el ec es pa pl pc ps la ll lc lo ha hl hc hi ta tl tc st A len cap xss w he hp hlo hhi hst h hcap hz hn hlen b0 b1 b2 b3 b4
    · exact shape_19 x ea el ec es pa pl pc ps la ll lc lo ha hl hc hi ta tl tc st A len cap xss w he hp hlo hhi hst h hcap hz hn hlen b0 b1 b2 b3 b4
  · have hs : shapeP k es ps lo hi st xss = sameP xss := by
      unfold shapeP
      rw [if_neg (by omega), if_neg (by omega), if_neg (by omega), if_neg (by omega), if_neg (by omega), if_neg (by omega), if_neg (by omega), if_neg (by omega), if_neg (by omega), if_neg (by omega), if_neg (by omega), if_neg (by omega)]
    rw [hs]
    exact shape_same k x ea el ec es pa pl pc ps la ll lc lo ha hl hc hi ta tl tc st A len cap xss w he hp hlo hhi hst h hcap hz ⟨h3, h8⟩ hn hlen b0 b1 b2 b3 b4
  · exact shape_17 x ea el ec es pa pl pc ps la ll lc lo ha hl hc hi ta tl tc st A len cap xss w he hp hlo hhi hst h hcap hz hn hlen b0 b1 b2 b3 b4

theorem ruled_any (k x : Int) (ea : Option Addr) (el ec : Nat) (es : List Int) (pa : Option Addr) (pl pc : Nat) (ps : List Int) (la : Option Addr) (ll lc : Nat) (lo : List Int) (ha : Option Addr) (hl hc : Nat) (hi : List Int) (ta : Option Addr) (tl tc : Nat) (st : List Int) (A : Option Addr) (len cap : Nat) (xss : List (List Int)) (w : World)
    (he : Lst w ea el ec es) (hp : Lst w pa pl pc ps) (hlo : Lst w la ll lc lo) (hhi : Lst w ha hl hc hi) (hst : Lst w ta tl tc st) (h : Lsts w A len xss) (hcap : len ≤ cap) (hlen : len ≤ 1048576) (b0 : el ≤ 1048576) (b1 : pl ≤ 1048576) (b2 : ll ≤ 1048576) (b3 : hl ≤ 1048576) (b4 : tl ≤ 1048576) (hz : ∀ d ∈ xss, sizeE d = 0) (ht : takesE k len = 0) :
    Calls Tryz.prog 28 #[.agg #[.int .i64 k, .slice ea el ec, .slice pa pl pc, .slice la ll lc, .slice ha hl hc, .slice ta tl tc, .int .i64 x], .slice A len cap] w fun e w' => OutP e w' (shapeP k es ps lo hi st xss) ∧ Below w.heap.size w w' := by
  rcases takes_ok ht with ⟨rfl, hn⟩ | ⟨h9, h15, hn⟩ | ⟨hk, hn⟩ | ⟨h3, h8, hn⟩ | ⟨rfl, hn⟩
  · exact ruled_2 x ea el ec es pa pl pc ps la ll lc lo ha hl hc hi ta tl tc st A len cap xss w he hp hlo hhi hst h hcap hz hn hlen b0 b1 b2 b3 b4
  · have hk : k = 9 ∨ k = 10 ∨ k = 11 ∨ k = 12 ∨ k = 13 ∨ k = 14 ∨ k = 15 := by omega
    rcases hk with rfl | rfl | rfl | rfl | rfl | rfl | rfl
    · exact ruled_9 x ea el ec es pa pl pc ps la ll lc lo ha hl hc hi ta tl tc st A len cap xss w he hp hlo hhi hst h hcap hz hn hlen b0 b1 b2 b3 b4
    · exact ruled_10 x ea el ec es pa pl pc ps la ll lc lo ha hl hc hi ta tl tc st A len cap xss w he hp hlo hhi hst h hcap hz hn hlen b0 b1 b2 b3 b4
    · exact ruled_11 x ea el ec es pa pl pc ps la ll lc lo ha hl hc hi ta tl tc st A len cap xss w he hp hlo hhi hst h hcap hz hn hlen b0 b1 b2 b3 b4
    · exact ruled_12 x ea el ec es pa pl pc ps la ll lc lo ha hl hc hi ta tl tc st A len cap xss w he hp hlo hhi hst h hcap hz hn hlen b0 b1 b2 b3 b4
    · exact ruled_13 x ea el ec es pa pl pc ps la ll lc lo ha hl hc hi ta tl tc st A len cap xss w he hp hlo hhi hst h hcap hz hn hlen b0 b1 b2 b3 b4
    · exact ruled_14 x ea el ec es pa pl pc ps la ll lc lo ha hl hc hi ta tl tc st A len cap xss w he hp hlo hhi hst h hcap hz hn hlen b0 b1 b2 b3 b4
    · exact ruled_15 x ea el ec es pa pl pc ps la ll lc lo ha hl hc hi ta tl tc st A len cap xss w he hp hlo hhi hst h hcap hz hn hlen b0 b1 b2 b3 b4
  · rcases hk with rfl | rfl | rfl
    · exact ruled_16 x ea el ec es pa pl pc ps la ll lc lo ha hl hc hi ta tl tc st A len cap xss w he hp hlo hhi hst h hcap hz hn hlen b0 b1 b2 b3 b4
    · exact ruled_18 x ea el ec es pa pl pc ps la ll lc lo ha hl hc hi ta tl tc st A len cap xss w he hp hlo hhi hst h hcap hz hn hlen b0 b1 b2 b3 b4
    · exact ruled_19 x ea el ec es pa pl pc ps la ll lc lo ha hl hc hi ta tl tc st A len cap xss w he hp hlo hhi hst h hcap hz hn hlen b0 b1 b2 b3 b4
  · have hs : shapeP k es ps lo hi st xss = sameP xss := by
      unfold shapeP
      rw [if_neg (by omega), if_neg (by omega), if_neg (by omega), if_neg (by omega), if_neg (by omega), if_neg (by omega), if_neg (by omega), if_neg (by omega), if_neg (by omega), if_neg (by omega), if_neg (by omega), if_neg (by omega)]
    rw [hs]
    exact ruled_same k x ea el ec es pa pl pc ps la ll lc lo ha hl hc hi ta tl tc st A len cap xss w he hp hlo hhi hst h hcap hz ⟨h3, h8⟩ hn hlen b0 b1 b2 b3 b4
  · exact ruled_17 x ea el ec es pa pl pc ps la ll lc lo ha hl hc hi ta tl tc st A len cap xss w he hp hlo hhi hst h hcap hz hn hlen b0 b1 b2 b3 b4

set_option maxRecDepth 100000 in
set_option maxHeartbeats 4000000 in
theorem Dims_any (k x : Int) (ea : Option Addr) (el ec : Nat) (es : List Int) (pa : Option Addr) (pl pc : Nat) (ps : List Int) (la : Option Addr) (ll lc : Nat) (lo : List Int) (ha : Option Addr) (hl hc : Nat) (hi : List Int) (ta : Option Addr) (tl tc : Nat) (st : List Int) (A : Option Addr) (len cap : Nat) (xss : List (List Int)) (w : World)
    (he : Lst w ea el ec es) (hp : Lst w pa pl pc ps) (hlo : Lst w la ll lc lo) (hhi : Lst w ha hl hc hi) (hst : Lst w ta tl tc st) (h : Lsts w A len xss) (hcap : len ≤ cap) (hlen : len ≤ 1048576) (b0 : el ≤ 1048576) (b1 : pl ≤ 1048576) (b2 : ll ≤ 1048576) (b3 : hl ≤ 1048576) (b4 : tl ≤ 1048576) :
    Calls Tryz.prog 22 #[.agg #[.int .i64 k, .slice ea el ec, .slice pa pl pc, .slice la ll lc, .slice ha hl hc, .slice ta tl tc, .int .i64 x], .slice A len cap] w fun e w' => OutP e w' (dimsP k es ps lo hi st xss) ∧ Below w.heap.size w w' := by
  have hmx := h.2.1
  have H := hide h
  have HN := hide h.1
  have HE := hide he
  have HP := hide hp
  have HLO := hide hlo
  have HHI := hide hhi
  have HST := hide hst
  have HB1 := hide ((Below.refl w.heap.size w).alloc (Nat.le_refl _) (.cells #[.int .i64 k, .slice ea el ec, .slice pa pl pc, .slice la ll lc, .slice ha hl hc, .slice ta tl tc, .int .i64 x] 31))
  have HOP := hide (OpAt.new w k (.slice ea el ec) (.slice pa pl pc) (.slice la ll lc) (.slice ha hl hc) (.slice ta tl tc) x)
  obtain ⟨o0, o1, o2, o3, o4, o5, o6⟩ := HOP.out.cells
  have HDP := hide (show dimsP k es ps lo hi st xss = if takesE k xss.length ≠ 0 then ([], takesE k xss.length) else if sizesE xss ≠ 0 then ([], sizesE xss) else if (shapeP k es ps lo hi st xss).2 ≠ 0 then ([], (shapeP k es ps lo hi st xss).2) else if sizeE (shapeP k es ps lo hi st xss).1 ≠ 0 then ([], sizeE (shapeP k es ps lo hi st xss).1) else ((shapeP k es ps lo hi st xss).1, 0) from rfl)
  clear h he hp hlo hhi hst
  by_cases c1 : takesE k len = 0
  case neg =>
    obtain ⟨T, hT⟩ : ∃ T, T = takesE k len := ⟨_, rfl⟩
    have hp : dimsP k es ps lo hi st xss = ([], T) := by rw [HDP.out, HN.out, if_pos c1, ← hT]
    rw [hp]
    have HT := hide hT
    have q : (T != 0) = true := by rw [hT]; simp [c1]
    clear hp c1 hT
    go_enter Tryz.func22, Tryz.ntmps22
    go_wp2_with (go_at_call 20; refine (takes_any _ _ _).mono ?_; rintro e w' ⟨rfl, hw'⟩; obtain rfl := hw'.symm; rw [← HT.out])
    go_ret2
    exact ⟨outP_none _ _, HB1.out⟩
  have HC1 := hide c1
  clear c1
  go_enter Tryz.func22, Tryz.ntmps22
  go_wp2_with (go_at_call 20; refine (takes_any _ _ _).mono ?_; rintro e w' ⟨rfl, hw'⟩; obtain rfl := hw'.symm; rw [HC1.out])
  go_loopw [25] (fun i wr => ∃ j : Nat, j ≤ len ∧ i = .int .i64 j ∧ (∀ t, t < j → sizeE (xss[t]?.getD []) = 0) ∧ OpAt wr w.heap.size k (.slice ea el ec) (.slice pa pl pc) (.slice la ll lc) (.slice ha hl hc) (.slice ta tl tc) x ∧ Below w.heap.size w wr) (fun i _ => len - (intOf i).toNat)
  case atStart => exact ⟨0, Nat.zero_le _, rfl, fun t ht => by omega, HOP.out, HB1.out⟩
  case round =>
    obtain ⟨j, hj, rfl, hgood, ho, hB⟩ := hrel
    have HG := hide hgood
    have HO := hide ho
    have HB := hide hB
    clear hgood ho hB o0 o1 o2 o3 o4 o5 o6
    by_cases hlt : j < len
    · obtain ⟨b, off, rfl, hc⟩ := H.out.at (by omega)
      obtain ⟨X, m, c, hcj0, hlj⟩ := hc j hlt
      have hcj : wr.cell? ⟨b, off + j, none⟩ = some (.slice X m c) := (HB.out.cell (p := ⟨b, off + j, none⟩) (lt_of_cell hcj0)).trans hcj0
      have HLJ := hide hlj
      clear hlj hcj0 hc
      obtain ⟨T, hT⟩ : ∃ T, T = sizeE (xss[j]?.getD []) := ⟨_, rfl⟩
      have HT := hide hT
      by_cases c2 : T = 0
      · have HT0 : Hid (sizeE (xss[j]?.getD []) = 0) := hT.symm.trans c2
        clear hT c2 HT
        go_wp2_with (go_at_call 40; refine (size_any _ _ _ (xss[j]?.getD []) _ (HLJ.out.1.below HB.out)).mono ?_; rintro e w' ⟨rfl, hw'⟩; obtain rfl := hw'.symm; rw [HT0.out])
        go_roundw
        case rel =>
          refine ⟨j + 1, by omega, by go_num, fun t ht => ?_, HO.out, HB.out⟩
          by_cases e : t = j
          · rw [e]; exact HT0.out
          · exact HG.out t (by omega)
        case measure => simp [intOf]; omega
      · have q : (T != 0) = true := by simp [c2]
        have hsz : sizesE xss = T := by
          rw [hT]
          exact sizesE_at xss j HG.out (by rw [HN.out]; exact hlt) (by rw [← hT]; exact c2)
        have hp : dimsP k es ps lo hi st xss = ([], T) := by rw [HDP.out, HN.out, if_neg (by rw [HC1.out]; simp), hsz, if_pos c2]
        have HPP := hide hp
        clear hp hsz hT c2
        go_wp2_with (go_at_call 40; refine (size_any _ _ _ (xss[j]?.getD []) _ (HLJ.out.1.below HB.out)).mono ?_; rintro e w' ⟨rfl, hw'⟩; obtain rfl := hw'.symm; rw [← HT.out])
        go_ret2
        rw [HPP.out]
        exact ⟨outP_none _ _, HB.out⟩
    · obtain rfl : j = len := by omega
      have hall : sizesE xss = 0 := sizesE_all xss (fun t ht => HG.out t (by rw [HN.out] at ht; exact ht))
      have HZ := hide (sizesE_ok xss hall)
      have HD2 : Hid (dimsP k es ps lo hi st xss = if (shapeP k es ps lo hi st xss).2 ≠ 0 then ([], (shapeP k es ps lo hi st xss).2) else if sizeE (shapeP k es ps lo hi st xss).1 ≠ 0 then ([], sizeE (shapeP k es ps lo hi st xss).1) else ((shapeP k es ps lo hi st xss).1, 0)) := by
        rw [Hid, HDP.out, HN.out, if_neg (by rw [HC1.out]; simp), if_neg (by rw [hall]; simp)]
      have HCS := hide (shape_any k x _ _ _ es _ _ _ ps _ _ _ lo _ _ _ hi _ _ _ st _ _ cap xss wr (HE.out.below HB.out) (HP.out.below HB.out) (HLO.out.below HB.out) (HHI.out.below HB.out) (HST.out.below HB.out) (H.out.below HB.out) hcap hlen b0 b1 b2 b3 b4 HZ.out HC1.out)
      obtain ⟨⟨L, E⟩, hLE⟩ : ∃ r, r = shapeP k es ps lo hi st xss := ⟨_, rfl⟩
      rw [← hLE] at HCS HD2
      have hd2 := HD2.out
      simp only at hd2
      obtain ⟨o0, o1, o2, o3, o4, o5, o6⟩ := HO.out.cells
      clear hall hLE HDP HD2
      by_cases c3 : E = 0
      case neg =>
        have q : (E != 0) = true := by simp [c3]
        rw [if_pos c3] at hd2
        have HPP := hide hd2
        clear hd2 c3
        go_wp2_with (go_at_call 41; refine HCS.out.mono ?_; rintro e w1 ⟨⟨Z, nz, cz, rfl, hi1, hnc⟩, hb⟩; have HB2 := hide (Below.on HB.out hb); clear hi1 hb)
        go_ret2
        rw [HPP.out]
        exact ⟨outP_none _ _, HB2.out⟩
      subst c3
      rw [if_neg (by simp)] at hd2
      obtain ⟨S, hS⟩ : ∃ S, S = sizeE L := ⟨_, rfl⟩
      have HSS := hide hS
      rw [← hS] at hd2
      clear hS
      by_cases c4 : S = 0
      · subst c4
        rw [if_neg (by simp)] at hd2
        have HPP := hide hd2
        clear hd2
        go_wp2_with (first
          | (go_at_call 41; refine HCS.out.mono ?_; rintro e w1 ⟨⟨Z, nz, cz, rfl, hi1, hnc⟩, hb⟩; have HI1 : Hid (Ints w1 Z nz L) := hi1; have HB2 := hide (Below.on HB.out hb); clear hi1 hb)
          | (go_at_call 40; refine (size_any _ _ _ L _ HI1.out).mono ?_; rintro e w' ⟨rfl, hw'⟩; obtain rfl := hw'.symm; rw [← HSS.out]))
        go_ret2
        rw [HPP.out]
        exact ⟨⟨_, _, _, rfl, HI1.out, hnc⟩, HB2.out⟩
      · have q : (S != 0) = true := by simp [c4]
        rw [if_pos c4] at hd2
        have HPP := hide hd2
        clear hd2 c4
        go_wp2_with (first
          | (go_at_call 41; refine HCS.out.mono ?_; rintro e w1 ⟨⟨Z, nz, cz, rfl, hi1, hnc⟩, hb⟩; have HI1 : Hid (Ints w1 Z nz L) := hi1; have HB2 := hide (Below.on HB.out hb); clear hi1 hb)
          | (go_at_call 40; refine (size_any _ _ _ L _ HI1.out).mono ?_; rintro e w' ⟨rfl, hw'⟩; obtain rfl := hw'.symm; rw [← HSS.out]))
        go_ret2
        rw [HPP.out]
        exact ⟨outP_none _ _, HB2.out⟩

set_option maxRecDepth 100000 in
set_option maxHeartbeats 4000000 in
theorem rDims_any (k x : Int) (ea : Option Addr) (el ec : Nat) (es : List Int) (pa : Option Addr) (pl pc : Nat) (ps : List Int) (la : Option Addr) (ll lc : Nat) (lo : List Int) (ha : Option Addr) (hl hc : Nat) (hi : List Int) (ta : Option Addr) (tl tc : Nat) (st : List Int) (A : Option Addr) (len cap : Nat) (xss : List (List Int)) (w : World)
    (he : Lst w ea el ec es) (hp : Lst w pa pl pc ps) (hlo : Lst w la ll lc lo) (hhi : Lst w ha hl hc hi) (hst : Lst w ta tl tc st) (h : Lsts w A len xss) (hcap : len ≤ cap) (hlen : len ≤ 1048576) (b0 : el ≤ 1048576) (b1 : pl ≤ 1048576) (b2 : ll ≤ 1048576) (b3 : hl ≤ 1048576) (b4 : tl ≤ 1048576) :
    Calls Tryz.prog 17 #[.agg #[.int .i64 k, .slice ea el ec, .slice pa pl pc, .slice la ll lc, .slice ha hl hc, .slice ta tl tc, .int .i64 x], .slice A len cap] w fun e w' => OutP e w' (dimsP k es ps lo hi st xss) ∧ Below w.heap.size w w' := by
  have hmx := h.2.1
  have H := hide h
  have HN := hide h.1
  have HE := hide he
  have HP := hide hp
  have HLO := hide hlo
  have HHI := hide hhi
  have HST := hide hst
  have HB1 := hide ((Below.refl w.heap.size w).alloc (Nat.le_refl _) (.cells #[.int .i64 k, .slice ea el ec, .slice pa pl pc, .slice la ll lc, .slice ha hl hc, .slice ta tl tc, .int .i64 x] 31))
  have HOP := hide (OpAt.new w k (.slice ea el ec) (.slice pa pl pc) (.slice la ll lc) (.slice ha hl hc) (.slice ta tl tc) x)
  obtain ⟨o0, o1, o2, o3, o4, o5, o6⟩ := HOP.out.cells
  have HDP := hide (show dimsP k es ps lo hi st xss = if takesE k xss.length ≠ 0 then ([], takesE k xss.length) else if sizesE xss ≠ 0 then ([], sizesE xss) else if (shapeP k es ps lo hi st xss).2 ≠ 0 then ([], (shapeP k es ps lo hi st xss).2) else if sizeE (shapeP k es ps lo hi st xss).1 ≠ 0 then ([], sizeE (shapeP k es ps lo hi st xss).1) else ((shapeP k es ps lo hi st xss).1, 0) from rfl)
  clear h he hp hlo hhi hst
  by_cases c1 : takesE k len = 0
  case neg =>
    obtain ⟨T, hT⟩ : ∃ T, T = takesE k len := ⟨_, rfl⟩
    have hp : dimsP k es ps lo hi st xss = ([], T) := by rw [HDP.out, HN.out, if_pos c1, ← hT]
    rw [hp]
    have HT := hide hT
    have q : (T != 0) = true := by rw [hT]; simp [c1]
    clear hp c1 hT
    go_enter Tryz.func17, Tryz.ntmps17
    go_wp2_with (go_at_call 15; refine (right_any k (.slice ea el ec) (.slice pa pl pc) (.slice la ll lc) (.slice ha hl hc) (.slice ta tl tc) x len _).mono ?_; rintro e w1 ⟨rfl, hb⟩; rw [← HT.out]; have HBR := hide (Below.on HB1.out hb); have HOR := hide (HOP.out.below hb); clear hb)
    go_ret2
    exact ⟨outP_none _ _, HBR.out⟩
  have HC1 := hide c1
  clear c1
  go_enter Tryz.func17, Tryz.ntmps17
  go_wp2_with (go_at_call 15; refine (right_any k (.slice ea el ec) (.slice pa pl pc) (.slice la ll lc) (.slice ha hl hc) (.slice ta tl tc) x len _).mono ?_; rintro e w1 ⟨rfl, hb⟩; rw [HC1.out]; have HBR := hide (Below.on HB1.out hb); have HOR := hide (HOP.out.below hb); clear hb)
  go_loopw [24] (fun i wr => ∃ j : Nat, j ≤ len ∧ i = .int .i64 j ∧ (∀ t, t < j → sizeE (xss[t]?.getD []) = 0) ∧ OpAt wr w.heap.size k (.slice ea el ec) (.slice pa pl pc) (.slice la ll lc) (.slice ha hl hc) (.slice ta tl tc) x ∧ Below w.heap.size w wr) (fun i _ => len - (intOf i).toNat)
  case atStart => exact ⟨0, Nat.zero_le _, rfl, fun t ht => by omega, HOR.out, HBR.out⟩
  case round =>
    obtain ⟨j, hj, rfl, hgood, ho, hB⟩ := hrel
    have HG := hide hgood
    have HO := hide ho
    have HB := hide hB
    clear HBR HOR
    clear hgood ho hB o0 o1 o2 o3 o4 o5 o6
    by_cases hlt : j < len
    · obtain ⟨b, off, rfl, hc⟩ := H.out.at (by omega)
      obtain ⟨X, m, c, hcj0, hlj⟩ := hc j hlt
      have hcj : wr.cell? ⟨b, off + j, none⟩ = some (.slice X m c) := (HB.out.cell (p := ⟨b, off + j, none⟩) (lt_of_cell hcj0)).trans hcj0
      have HLJ := hide hlj
      clear hlj hcj0 hc
      obtain ⟨T, hT⟩ : ∃ T, T = sizeE (xss[j]?.getD []) := ⟨_, rfl⟩
      have HT := hide hT
      by_cases c2 : T = 0
      · have HT0 : Hid (sizeE (xss[j]?.getD []) = 0) := hT.symm.trans c2
        clear hT c2 HT
        go_wp2_with (go_at_call 27; refine (rsize_any _ _ _ (xss[j]?.getD []) _ (HLJ.out.1.below HB.out)).mono ?_; rintro e w' ⟨rfl, hw'⟩; obtain rfl := hw'.symm; rw [HT0.out])
        go_roundw
        case rel =>
          refine ⟨j + 1, by omega, by go_num, fun t ht => ?_, HO.out, HB.out⟩
          by_cases e : t = j
          · rw [e]; exact HT0.out
          · exact HG.out t (by omega)
        case measure => simp [intOf]; omega
      · have q : (T != 0) = true := by simp [c2]
        have hsz : sizesE xss = T := by
          rw [hT]
          exact sizesE_at xss j HG.out (by rw [HN.out]; exact hlt) (by rw [← hT]; exact c2)
        have hp : dimsP k es ps lo hi st xss = ([], T) := by rw [HDP.out, HN.out, if_neg (by rw [HC1.out]; simp), hsz, if_pos c2]
        have HPP := hide hp
        clear hp hsz hT c2
        go_wp2_with (go_at_call 27; refine (rsize_any _ _ _ (xss[j]?.getD []) _ (HLJ.out.1.below HB.out)).mono ?_; rintro e w' ⟨rfl, hw'⟩; obtain rfl := hw'.symm; rw [← HT.out])
        go_ret2
        rw [HPP.out]
        exact ⟨outP_none _ _, HB.out⟩
    · obtain rfl : j = len := by omega
      have hall : sizesE xss = 0 := sizesE_all xss (fun t ht => HG.out t (by rw [HN.out] at ht; exact ht))
      have HZ := hide (sizesE_ok xss hall)
      have HD2 : Hid (dimsP k es ps lo hi st xss = if (shapeP k es ps lo hi st xss).2 ≠ 0 then ([], (shapeP k es ps lo hi st xss).2) else if sizeE (shapeP k es ps lo hi st xss).1 ≠ 0 then ([], sizeE (shapeP k es ps lo hi st xss).1) else ((shapeP k es ps lo hi st xss).1, 0)) := by
        rw [Hid, HDP.out, HN.out, if_neg (by rw [HC1.out]; simp), if_neg (by rw [hall]; simp)]
      have HCS := hide (ruled_any k x _ _ _ es _ _ _ ps _ _ _ lo _ _ _ hi _ _ _ st _ _ cap xss wr (HE.out.below HB.out) (HP.out.below HB.out) (HLO.out.below HB.out) (HHI.out.below HB.out) (HST.out.below HB.out) (H.out.below HB.out) hcap hlen b0 b1 b2 b3 b4 HZ.out HC1.out)
      obtain ⟨⟨L, E⟩, hLE⟩ : ∃ r, r = shapeP k es ps lo hi st xss := ⟨_, rfl⟩
      rw [← hLE] at HCS HD2
      have hd2 := HD2.out
      simp only at hd2
      obtain ⟨o0, o1, o2, o3, o4, o5, o6⟩ := HO.out.cells
      clear hall hLE HDP HD2
      by_cases c3 : E = 0
      case neg =>
        have q : (E != 0) = true := by simp [c3]
        rw [if_pos c3] at hd2
        have HPP := hide hd2
        clear hd2 c3
        go_wp2_with (go_at_call 28; refine HCS.out.mono ?_; rintro e w1 ⟨⟨Z, nz, cz, rfl, hi1, hnc⟩, hb⟩; have HB2 := hide (Below.on HB.out hb); clear hi1 hb)
        go_ret2
        rw [HPP.out]
        exact ⟨outP_none _ _, HB2.out⟩
      subst c3
      rw [if_neg (by simp)] at hd2
      obtain ⟨S, hS⟩ : ∃ S, S = sizeE L := ⟨_, rfl⟩
      have HSS := hide hS
      rw [← hS] at hd2
      clear hS
      by_cases c4 : S = 0
      · subst c4
        rw [if_neg (by simp)] at hd2
        have HPP := hide hd2
        clear hd2
        go_wp2_with (first
          | (go_at_call 28; refine HCS.out.mono ?_; rintro e w1 ⟨⟨Z, nz, cz, rfl, hi1, hnc⟩, hb⟩; have HI1 : Hid (Ints w1 Z nz L) := hi1; have HB2 := hide (Below.on HB.out hb); clear hi1 hb)
          | (go_at_call 27; refine (rsize_any _ _ _ L _ HI1.out).mono ?_; rintro e w' ⟨rfl, hw'⟩; obtain rfl := hw'.symm; rw [← HSS.out]))
        go_ret2
        rw [HPP.out]
        exact ⟨⟨_, _, _, rfl, HI1.out, hnc⟩, HB2.out⟩
      · have q : (S != 0) = true := by simp [c4]
        rw [if_pos c4] at hd2
        have HPP := hide hd2
        clear hd2 c4
        go_wp2_with (first
          | (go_at_call 28; refine HCS.out.mono ?_; rintro e w1 ⟨⟨Z, nz, cz, rfl, hi1, hnc⟩, hb⟩; have HI1 : Hid (Ints w1 Z nz L) := hi1; have HB2 := hide (Below.on HB.out hb); clear hi1 hb)
          | (go_at_call 27; refine (rsize_any _ _ _ L _ HI1.out).mono ?_; rintro e w' ⟨rfl, hw'⟩; obtain rfl := hw'.symm; rw [← HSS.out]))
        go_ret2
        rw [HPP.out]
        exact ⟨outP_none _ _, HB2.out⟩

end Go.Proofs.YteoobeldmicjhaaGreat.V
namespace Go.Proofs.YteoobeldmicjhaaGreat.V
set_option maxRecDepth 20000
open Go.RowKit

/-- A list of arrays, as it lies. -/
def Arrs (w : World) (A : Option Addr) (m : Nat) (v : Nat → ArrV) : Prop :=
  m = 0 ∨ ∃ b off, A = some ⟨b, off, none⟩ ∧ ∀ j, j < m → w.cell? ⟨b, off + j * 2, none⟩ = some (v j).d ∧ w.cell? ⟨b, off + j * 2 + 1, none⟩ = some (v j).x ∧ Lst w (v j).da (v j).dl (v j).dc (v j).ds
theorem Arrs.below {w w' : World} {A : Option Addr} {m : Nat} {v : Nat → ArrV} (h : Arrs w A m v) (hb : Below w.heap.size w w') : Arrs w' A m v := by
  rcases h with h | ⟨b, off, e, h⟩
  · exact .inl h
  · exact .inr ⟨b, off, e, fun j hj => ⟨(hb.cell (p := ⟨b, off + j * 2, none⟩) (lt_of_cell (h j hj).1)).trans (h j hj).1, (hb.cell (p := ⟨b, off + j * 2 + 1, none⟩) (lt_of_cell (h j hj).2.1)).trans (h j hj).2.1, (h j hj).2.2.below hb⟩⟩
/-- The dimensions of the arrays. -/
def dimsOf (m : Nat) (v : Nat → ArrV) : List (List Int) := (List.range m).map fun j => (v j).ds
theorem dimsOf_len (m : Nat) (v : Nat → ArrV) : (dimsOf m v).length = m := by simp [dimsOf]
theorem dimsOf_at (m : Nat) (v : Nat → ArrV) (j : Nat) (h : j < m) : (dimsOf m v)[j]?.getD [] = (v j).ds := by simp [dimsOf, h]
/-- What is wrong with the first array with which something is. -/
def arrsE (v : Nat → ArrV) : Nat → Int
  | 0 => 0
  | m + 1 => if arrsE v m ≠ 0 then arrsE v m else arrE (v m).ds (v m).xl
theorem arrsE_all {v : Nat → ArrV} : ∀ m, (∀ j, j < m → arrE (v j).ds (v j).xl = 0) → arrsE v m = 0
  | 0, _ => rfl
  | m + 1, h => by rw [arrsE, arrsE_all m (fun j hj => h j (by omega)), if_neg (by simp)]; exact h m (by omega)
theorem arrsE_at {v : Nat → ArrV} {j : Nat} (h : ∀ t, t < j → arrE (v t).ds (v t).xl = 0) (hj : arrE (v j).ds (v j).xl ≠ 0) : ∀ m, j < m → arrsE v m = arrE (v j).ds (v j).xl
  | 0, hm => by omega
  | m + 1, hm => by
    rw [arrsE]
    by_cases c : m = j
    · subst c; rw [arrsE_all m h, if_neg (by simp)]
    · rw [arrsE_at h hj m (by omega), if_pos hj]
/-- What Do tells. -/
def doE (k : Int) (es ps lo hi st : List Int) (m : Nat) (v : Nat → ArrV) : Int :=
  if takesE k m ≠ 0 then takesE k m else if arrsE v m ≠ 0 then arrsE v m else (dimsP k es ps lo hi st (dimsOf m v)).2
/-- The row of the arguments' dimensions, as far as it has come. -/
def rowV (v : Nat → ArrV) (j t : Nat) : Value := if t < j then (v t).d else .slice none 0 0
end Go.Proofs.YteoobeldmicjhaaGreat.V
namespace Go.Proofs.YteoobeldmicjhaaGreat.V
set_option maxRecDepth 20000
open Go.RowKit

theorem dimsP_ok {k : Int} {es ps lo hi st : List Int} {xss : List (List Int)} (h : (dimsP k es ps lo hi st xss).2 = 0) : sizeE (dimsP k es ps lo hi st xss).1 = 0 := by
  unfold dimsP at h ⊢
  by_cases c1 : takesE k xss.length ≠ 0
  · rw [if_pos c1] at h; exact absurd h c1
  rw [if_neg c1] at h ⊢
  by_cases c2 : sizesE xss ≠ 0
  · rw [if_pos c2] at h; exact absurd h c2
  rw [if_neg c2] at h ⊢
  by_cases c3 : (shapeP k es ps lo hi st xss).2 ≠ 0
  · rw [if_pos c3] at h; exact absurd h c3
  rw [if_neg c3] at h ⊢
  by_cases c4 : sizeE (shapeP k es ps lo hi st xss).1 ≠ 0
  · rw [if_pos c4] at h; exact absurd h c4
  rw [if_neg c4]
  exact Decidable.not_not.1 c4
theorem doE_ok {k : Int} {es ps lo hi st : List Int} {m : Nat} {v : Nat → ArrV} (h : doE k es ps lo hi st m v = 0) : takesE k m = 0 ∧ arrsE v m = 0 ∧ (dimsP k es ps lo hi st (dimsOf m v)).2 = 0 := by
  unfold doE at h
  by_cases c1 : takesE k m ≠ 0
  · rw [if_pos c1] at h; exact absurd h c1
  rw [if_neg c1] at h
  by_cases c2 : arrsE v m ≠ 0
  · rw [if_pos c2] at h; exact absurd h c2
  rw [if_neg c2] at h
  exact ⟨Decidable.not_not.1 c1, Decidable.not_not.1 c2, h⟩
theorem arrsE_ok {v : Nat → ArrV} : ∀ m, arrsE v m = 0 → ∀ j, j < m → arrE (v j).ds (v j).xl = 0
  | 0, _, j, hj => by omega
  | m + 1, h, j, hj => by
    rw [arrsE] at h
    by_cases c : arrsE v m ≠ 0
    · rw [if_pos c] at h; exact absurd h c
    · rw [if_neg c] at h
      by_cases e : j = m
      · rw [e]; exact h
      · exact arrsE_ok m (Decidable.not_not.1 c) j (by omega)
theorem ints_not_arr {w : World} {b off n B : Nat} {xs : List Int} {c0 c1 : Value} (ha : ArrAt w B c0 c1) (n0 : ∀ k i, c0 ≠ .int k i) (n1 : ∀ k i, c1 ≠ .int k i) (hn : 0 < n) (hc : ∀ j, j < n → w.cell? ⟨b, off + j, none⟩ = some (.int .i64 (xs[j]?.getD 0))) : b ≠ B := by
  intro e
  subst e
  have h := hc 0 hn
  unfold ArrAt at ha
  match off, h with
  | 0, h => simp [World.cell?, ha] at h; exact n0 _ _ h
  | 1, h => simp [World.cell?, ha] at h; exact n1 _ _ h
  | off + 2, h => simp [World.cell?, ha] at h
theorem ints_put_arr {w : World} {Z : Option Addr} {nz B : Nat} {L : List Int} {c0 c1 : Value} (h : Ints w Z nz L) (ha : ArrAt w B c0 c1) (n0 : ∀ k i, c0 ≠ .int k i) (n1 : ∀ k i, c1 ≠ .int k i) (u u' : Value) : Ints ((w.setCell ⟨B, 0, none⟩ u).setCell ⟨B, 1, none⟩ u') Z nz L := by
  obtain ⟨h1, h2, h3, h4⟩ := h
  refine ⟨h1, h2, h3, ?_⟩
  by_cases h0 : nz = 0
  · exact .inl h0
  · rcases h4 with h4 | ⟨b, off, e, hc⟩
    · exact .inl h4
    · have hne := ints_not_arr ha n0 n1 (by omega) hc
      exact .inr ⟨b, off, e, fun j hj => setc_cell (setc_cell (hc j hj) hne) hne⟩
theorem ints_save {w1 W w2 : World} {Z : Option Addr} {nz : Nat} {L : List Int} (h : Ints w1 Z nz L) (hb : Below w1.heap.size w1 W) (hs : Save w1.heap.size W w2) : Ints w2 Z nz L := by
  obtain ⟨h1, h2, h3, h4⟩ := h
  refine ⟨h1, h2, h3, ?_⟩
  rcases h4 with h4 | ⟨b, off, e, hc⟩
  · exact .inl h4
  · by_cases h0 : nz = 0
    · exact .inl h0
    · have hl := lt_of_cell (hc 0 (by omega))
      simp only at hl
      exact .inr ⟨b, off, e, fun j hj => (World.cell?_of_block (w := W) (hs.1 b (by have := hb.size; omega) (by omega))).trans ((hb.cell (p := ⟨b, off + j, none⟩) hl).trans (hc j hj))⟩

set_option maxRecDepth 100000 in
set_option maxHeartbeats 4000000 in
theorem Do_good (k x : Int) (ea : Option Addr) (el ec : Nat) (es : List Int) (pa : Option Addr) (pl pc : Nat) (ps : List Int) (la : Option Addr) (ll lc : Nat) (lo : List Int) (ha : Option Addr) (hl hc : Nat) (hi : List Int) (ta : Option Addr) (tl tc : Nat) (st : List Int) (A : Option Addr) (m cap : Nat) (v : Nat → ArrV) (L : List Int) (n : Nat) (f : List Int) (w : World)
    (he : Lst w ea el ec es) (hp : Lst w pa pl pc ps) (hlo : Lst w la ll lc lo) (hhi : Lst w ha hl hc hi) (hst : Lst w ta tl tc st) (b0 : el ≤ 1048576) (b1 : pl ≤ 1048576) (b2 : ll ≤ 1048576) (b3 : hl ≤ 1048576) (b4 : tl ≤ 1048576) (hA : Arrs w A m v) (hm : m ≤ 1048576) (hE : doE k es ps lo hi st m v = 0) (hL : L = (dimsP k es ps lo hi st (dimsOf m v)).1) (hN : (n : Int) = prod L) (hfl : f.length = n) (hfb : ∀ y ∈ f, -9223372036854775808 ≤ y ∧ y ≤ 9223372036854775807)
    (hwork : 0 < n → ∀ (W : World) (Z : Option Addr) (nz cz g : Nat), Below w.heap.size w W → w.heap.size ≤ g → Ints W Z nz L → nz ≤ cz → W.rowIs g 2 n (fun _ => .int .i64 0) → Calls Tryz.prog 24 #[.agg #[.slice Z nz cz, .slice (some ⟨g, 0, none⟩) n n], .agg #[.int .i64 k, .slice ea el ec, .slice pa pl pc, .slice la ll lc, .slice ha hl hc, .slice ta tl tc, .int .i64 x], .slice A m cap] W fun e W' => e = .returned (.tuple #[]) ∧ W'.rowIs g 2 n (fun j => .int .i64 (f[j]?.getD 0)) ∧ Save g W W') :
    Calls Tryz.prog 9 #[.agg #[.int .i64 k, .slice ea el ec, .slice pa pl pc, .slice la ll lc, .slice ha hl hc, .slice ta tl tc, .int .i64 x], .slice A m cap] w fun e w' => (∃ (Z : Option Addr) (nz cz G : Nat), e = .returned (.tuple #[.agg #[.slice Z nz cz, .slice (some ⟨G, 0, none⟩) n n], .int .i64 0]) ∧ (Ints w' Z nz L ∧ nz ≤ cz) ∧ Ints w' (some ⟨G, 0, none⟩) n f ∧ w.heap.size ≤ G) ∧ Below w.heap.size w w' := by
  obtain ⟨c1, c2, c3⟩ := doE_ok hE
  have hz := dimsP_ok c3
  rw [← hL] at hz
  have hn6 : n ≤ 65536 := by
    have : arrE L n = 0 := by
      unfold arrE
      rw [if_neg (by rw [hz]; simp), if_neg (by rw [size_prod hz, hN]; simp)]
    exact (arrE_ok this).2.2
  have HE := hide he
  have HP := hide hp
  have HLO := hide hlo
  have HHI := hide hhi
  have HST := hide hst
  have HAA := hide hA
  have HC1 := hide c1
  have HOK := hide (arrsE_ok m c2)
  have HZ := hide hz
  have HN := hide hN
  have HFL := hide hfl
  have HFB := hide hfb
  have HW := hide hwork
  have HDP : Hid (dimsP k es ps lo hi st (dimsOf m v) = (L, 0)) := by
    rw [Hid, hL]
    exact Prod.ext rfl c3
  have HB1 := hide ((Below.refl w.heap.size w).alloc (Nat.le_refl _) (.cells #[.int .i64 k, .slice ea el ec, .slice pa pl pc, .slice la ll lc, .slice ha hl hc, .slice ta tl tc, .int .i64 x] 31))
  have HB2 := hide (HB1.out.alloc HB1.out.size (.cells #[.slice none 0 0, .slice none 0 0] 25))
  have HOP := hide ((OpAt.new w k (.slice ea el ec) (.slice pa pl pc) (.slice la ll lc) (.slice ha hl hc) (.slice ta tl tc) x).alloc (.cells #[.slice none 0 0, .slice none 0 0] 25))
  have har := ArrAt.new (w.alloc (.cells #[.int .i64 k, .slice ea el ec, .slice pa pl pc, .slice la ll lc, .slice ha hl hc, .slice ta tl tc, .int .i64 x] 31)) (.slice none 0 0) (.slice none 0 0)
  simp only [World.size_alloc] at har
  have HAR := hide har
  obtain ⟨o0, o1, o2, o3, o4, o5, o6⟩ := HOP.out.cells
  have hmk := run_make_row' (P := Tryz.prog) 45 22 (.slice none 0 0) 24 Tryz.underlying45 info_ints rfl .i64 .i64 m (by omega) (by omega)
  have hmk2 := run_make_row' (P := Tryz.prog) 23 2 (.int .i64 0) 8 Tryz.underlying23 info_int64 rfl .i64 .i64 n (by omega) (by omega)
  clear he hp hlo hhi hst hA har hE hL hN hfl hfb hwork c1 c2 c3 hz
  go_enter Tryz.func9, Tryz.ntmps9
  go_wp2_with (go_at_call 20; refine (takes_any _ _ _).mono ?_; rintro e w' ⟨rfl, hw'⟩; obtain rfl := hw'.symm; rw [HC1.out])
  go_loopw [28] (fun i wr => ∃ j : Nat, j ≤ m ∧ i = .int .i64 j ∧ wr.rowIs (w.heap.size + 1 + 1) 22 m (rowV v j) ∧ OpAt wr w.heap.size k (.slice ea el ec) (.slice pa pl pc) (.slice la ll lc) (.slice ha hl hc) (.slice ta tl tc) x ∧ ArrAt wr (w.heap.size + 1) (.slice none 0 0) (.slice none 0 0) ∧ Below w.heap.size w wr) (fun i _ => m - (intOf i).toNat)
  case atStart =>
    refine ⟨0, by omega, rfl, ?_, HOP.out.alloc _, HAR.out.alloc _, HB2.out.alloc HB2.out.size _⟩
    have := World.rowIs_made ((w.alloc (.cells #[.int .i64 k, .slice ea el ec, .slice pa pl pc, .slice la ll lc, .slice ha hl hc, .slice ta tl tc, .int .i64 x] 31)).alloc (.cells #[.slice none 0 0, .slice none 0 0] 25)) (.slice none 0 0) m 22
    simp only [World.size_alloc] at this
    exact this.congr (fun t _ => by simp [rowV])
  case round =>
    obtain ⟨j, hj, rfl, hrow, hop, har, hB⟩ := hrel
    have HR := hide hrow
    have HO := hide hop
    have HA := hide har
    have HB := hide hB
    clear hrow hop har hB o0 o1 o2 o3 o4 o5 o6
    by_cases hlt : j < m
    · obtain ⟨b, off, rfl, hcs⟩ := HAA.out.resolve_left (by omega)
      obtain ⟨d0, d1, hl⟩ := hcs j hlt
      have hbl : b < w.heap.size := lt_of_cell d0
      have hok := HOK.out j hlt
      obtain ⟨⟨da, dl, dc, ds, xa, xl, xc⟩, hv⟩ : ∃ u, u = v j := ⟨_, rfl⟩
      rw [← hv] at d0 d1 hl hok
      simp only [ArrV.d, ArrV.x] at d0 d1 hl hok
      have s0 := (HB.out.cell (p := ⟨b, off + j * 2, none⟩) hbl).trans d0
      have s1 := (HB.out.cell (p := ⟨b, off + j * 2 + 1, none⟩) hbl).trans d1
      have HL := hide hl
      have HV := hide hv
      have HE1 := hide hok
      have HAN := hide (ArrAt.new wr (.slice da dl dc) (.slice xa xl xc))
      have HBN := hide (HB.out.alloc HB.out.size (.cells #[.slice da dl dc, .slice xa xl xc] 25))
      have HAB := hide (HA.out.alloc (.cells #[.slice da dl dc, .slice xa xl xc] 25))
      obtain ⟨⟨a0, a1⟩, _⟩ := HAN.out.cells
      clear hcs d0 d1 hl hv hok
      go_wp2_with (go_at_call 21; refine (awrong_any da dl dc ds xa xl xc _ (HL.out.1.below HBN.out)).mono ?_; rintro e w1 ⟨rfl, hb⟩; rw [HE1.out]; have HB3 := hide (Below.on HBN.out hb); have HA3 := hide (HAB.out.below hb); have HO3 := hide ((HO.out.alloc _).below hb); have HR3 := hide ((HR.out.of_block (Below.heap_alloc _ (.cells #[.slice da dl dc, .slice xa xl xc] 25) _ HR.out.lt)).of_block (hb.block _ (by have := HR.out.lt; simp; omega))); have HAN3 := hide (HAN.out.below hb); clear a0 a1 hb; obtain ⟨⟨a0, a1⟩, _⟩ := HAN3.out.cells; have hr := HR3.out.cell hlt; have hf := HR3.out.frozen j)
      go_roundw
      case rel =>
        refine ⟨j + 1, by omega, by go_num, (HR3.out.set j (.slice da dl dc)).congr (fun t ht => ?_), HO3.out.set (p := ⟨w.heap.size + 1 + 1, j, none⟩) (by simp; omega) _, HA3.out.set (p := ⟨w.heap.size + 1 + 1, j, none⟩) (by simp) _, HB3.out.setCell (p := ⟨w.heap.size + 1 + 1, j, none⟩) (by simp; omega) _⟩
        by_cases e : t = j
        · rw [e, if_pos rfl, rowV, if_pos (by omega), ← HV.out]; rfl
        · rw [if_neg e, rowV, rowV]
          by_cases h : t < j
          · rw [if_pos h, if_pos (by omega)]
          · rw [if_neg h, if_neg (by omega)]
      case measure => simp [intOf]; omega
    · obtain rfl : j = m := by omega
      have HLS : Hid (Lsts wr (some ⟨w.heap.size + 1 + 1, 0, none⟩) j (dimsOf j v)) := by
        refine ⟨dimsOf_len _ _, by omega, ?_⟩
        by_cases h0 : j = 0
        · exact .inl h0
        · refine .inr ⟨_, _, rfl, fun t ht => ?_⟩
          obtain ⟨b, off, rfl, hcs⟩ := HAA.out.resolve_left h0
          have := HR.out.cell ht
          rw [rowV, if_pos ht, ArrV.d] at this
          exact ⟨_, _, _, by rw [Nat.zero_add]; exact this, by rw [dimsOf_at _ _ _ ht]; exact (hcs t ht).2.2.below HB.out⟩
      have hcd := Dims_any k x _ _ ec es _ _ pc ps _ _ lc lo _ _ hc hi _ _ tc st _ _ j (dimsOf j v) wr (HE.out.below HB.out) (HP.out.below HB.out) (HLO.out.below HB.out) (HHI.out.below HB.out) (HST.out.below HB.out) HLS.out (Nat.le_refl _) hm b0 b1 b2 b3 b4
      rw [HDP.out] at hcd
      have HCD := hide hcd
      obtain ⟨o0, o1, o2, o3, o4, o5, o6⟩ := HO.out.cells
      clear hcd
      by_cases hn0 : (0 : Int) < (n : Int)
      case neg =>
        have hn2 : decide ((0 : Int) < (n : Int)) = false := decide_eq_false hn0
        have hn3 : n = 0 := by omega
        have hn4 : decide (0 < n) = false := decide_eq_false (by omega)
        have hn5 : ¬ 0 < n := by omega
        have HN3 := hide hn3
        clear hn3 hn0
        go_wp2_with (first
          | (go_at_call 22; refine HCD.out.mono ?_; rintro e w1 ⟨⟨Z, nz, cz, rfl, hi1, hnc⟩, hb⟩; have HI1 : Hid (Ints w1 Z nz L) := hi1; have HB2 := hide (Below.on HB.out hb); have hna := HA.out.lt; have HO2 := hide (HO.out.below hb); have HA2 := hide (HA.out.below hb); clear hi1 hb o0 o1 o2 o3 o4 o5 o6; obtain ⟨o0, o1, o2, o3, o4, o5, o6⟩ := HO2.out.cells)
          | (go_at_call 23; refine (count_any _ _ _ L _ HI1.out (count_ok HZ.out)).mono ?_; rintro e w' ⟨rfl, hw'⟩; obtain rfl := hw'.symm; rw [← HN.out]; have HO5 := hide ((HO2.out.alloc (.cells (madeCells #[.int .i64 0] n) 2)).alloc (.cells #[.slice Z nz cz, .slice (some ⟨w1.heap.size, 0, none⟩) n n] 25)); have HA5 := hide ((HA2.out.alloc (.cells (madeCells #[.int .i64 0] n) 2)).alloc (.cells #[.slice Z nz cz, .slice (some ⟨w1.heap.size, 0, none⟩) n n] 25)); have HB5 := hide ((HB2.out.alloc HB2.out.size (.cells (madeCells #[.int .i64 0] n) 2)).alloc (HB2.out.alloc HB2.out.size (.cells (madeCells #[.int .i64 0] n) 2)).size (.cells #[.slice Z nz cz, .slice (some ⟨w1.heap.size, 0, none⟩) n n] 25)); have hx5 := ArrAt.new (w1.alloc (.cells (madeCells #[.int .i64 0] n) 2)) (.slice Z nz cz) (.slice (some ⟨w1.heap.size, 0, none⟩) n n); simp only [World.size_alloc] at hx5; have HX5 := hide hx5; clear o0 o1 o2 o3 o4 o5 o6 hx5; obtain ⟨o0, o1, o2, o3, o4, o5, o6⟩ := HO5.out.cells; obtain ⟨⟨x0, x1⟩, _⟩ := HX5.out.cells; obtain ⟨⟨a0, a1⟩, fa0, fa1⟩ := HA5.out.cells))
        have hs1 := HB2.out.size
        have ha1 := HA2.out.lt
        obtain ⟨⟨u0, u1⟩, _⟩ := (HA5.out.put (.slice Z nz cz) (.slice (some ⟨w1.heap.size, 0, none⟩) n n)).cells
        refine bodyPost_ret (v := .tuple #[.agg #[.slice Z nz cz, .slice (some ⟨w1.heap.size, 0, none⟩) n n], .int .i64 0]) (by simp [results, Tryz.results9, go_sem, u0, u1]) rfl ⟨⟨Z, nz, cz, w1.heap.size, rfl, ⟨?_, hnc⟩, ?_, hs1⟩, ?_⟩
        · exact ints_put_arr (HI1.out.below (((Below.refl _ _).alloc (Nat.le_refl _) _).alloc (by simp) _)) HA5.out (fun _ _ e => by cases e) (fun _ _ e => by cases e) _ _
        · exact ⟨HFL.out, by omega, HFB.out, .inl HN3.out⟩
        · exact (HB5.out.setCell (p := ⟨w.heap.size + 1, 0, none⟩) (by simp) _).setCell (p := ⟨w.heap.size + 1, 1, none⟩) (by simp) _
      go_wp2_with (first
        | (go_at_call 22; refine HCD.out.mono ?_; rintro e w1 ⟨⟨Z, nz, cz, rfl, hi1, hnc⟩, hb⟩; have HI1 : Hid (Ints w1 Z nz L) := hi1; have HB2 := hide (Below.on HB.out hb); have hna := HA.out.lt; have HO2 := hide (HO.out.below hb); have HA2 := hide (HA.out.below hb); clear hi1 hb o0 o1 o2 o3 o4 o5 o6; obtain ⟨o0, o1, o2, o3, o4, o5, o6⟩ := HO2.out.cells)
        | (go_at_call 23; refine (count_any _ _ _ L _ HI1.out (count_ok HZ.out)).mono ?_; rintro e w' ⟨rfl, hw'⟩; obtain rfl := hw'.symm; rw [← HN.out]; have HO5 := hide ((HO2.out.alloc (.cells (madeCells #[.int .i64 0] n) 2)).alloc (.cells #[.slice Z nz cz, .slice (some ⟨w1.heap.size, 0, none⟩) n n] 25)); have HA5 := hide ((HA2.out.alloc (.cells (madeCells #[.int .i64 0] n) 2)).alloc (.cells #[.slice Z nz cz, .slice (some ⟨w1.heap.size, 0, none⟩) n n] 25)); have HB5 := hide ((HB2.out.alloc HB2.out.size (.cells (madeCells #[.int .i64 0] n) 2)).alloc (HB2.out.alloc HB2.out.size (.cells (madeCells #[.int .i64 0] n) 2)).size (.cells #[.slice Z nz cz, .slice (some ⟨w1.heap.size, 0, none⟩) n n] 25)); have hx5 := ArrAt.new (w1.alloc (.cells (madeCells #[.int .i64 0] n) 2)) (.slice Z nz cz) (.slice (some ⟨w1.heap.size, 0, none⟩) n n); simp only [World.size_alloc] at hx5; have HX5 := hide hx5; clear o0 o1 o2 o3 o4 o5 o6 hx5; obtain ⟨o0, o1, o2, o3, o4, o5, o6⟩ := HO5.out.cells; obtain ⟨⟨x0, x1⟩, _⟩ := HX5.out.cells)
        | (go_at_call 24; refine (HW.out (by omega) _ Z nz cz w1.heap.size HB5.out HB2.out.size (HI1.out.below (((Below.refl _ _).alloc (Nat.le_refl _) _).alloc (by simp) _)) hnc ((World.rowIs_made w1 (.int .i64 0) n 2).of_block (Below.heap_alloc _ _ _ (by simp)))).mono ?_; rintro e w6 ⟨rfl, hr6, hsv⟩; have hs0 := HB2.out.size; have ha0 := HA2.out.lt; have HR6 := hide hr6; have HX6 : Hid (ArrAt w6 (w1.heap.size + 1) _ _) := (hsv.1 (w1.heap.size + 1) (by simp) (by omega)).trans HX5.out; have HA6 : Hid (ArrAt w6 (w.heap.size + 1) _ _) := (hsv.1 (w.heap.size + 1) (by simp; omega) (by omega)).trans HA5.out; have HI6 := hide (ints_save HI1.out (((Below.refl _ _).alloc (Nat.le_refl _) (.cells (madeCells #[.int .i64 0] n) 2)).alloc (by simp) (.cells #[.slice Z nz cz, .slice (some ⟨w1.heap.size, 0, none⟩) n n] 25)) hsv); have HB6 := hide (Save.below HB5.out hsv (by omega) (Nat.le_refl _)); clear hsv hr6 x0 x1 o0 o1 o2 o3 o4 o5 o6; obtain ⟨⟨x0, x1⟩, _⟩ := HX6.out.cells; obtain ⟨⟨a0, a1⟩, fa0, fa1⟩ := HA6.out.cells))
      have hs1 := HB2.out.size
      have ha1 := HA2.out.lt
      obtain ⟨⟨u0, u1⟩, _⟩ := (HA6.out.put (.slice Z nz cz) (.slice (some ⟨w1.heap.size, 0, none⟩) n n)).cells
      refine bodyPost_ret (v := .tuple #[.agg #[.slice Z nz cz, .slice (some ⟨w1.heap.size, 0, none⟩) n n], .int .i64 0]) (by simp [results, Tryz.results9, go_sem, u0, u1]) rfl ⟨⟨Z, nz, cz, w1.heap.size, rfl, ⟨?_, hnc⟩, ?_, hs1⟩, ?_⟩
      · exact ints_put_arr HI6.out HA6.out (fun _ _ e => by cases e) (fun _ _ e => by cases e) _ _
      · have hr8 := (HR6.out.setOther (a := ⟨w.heap.size + 1, 0, none⟩) (by simp; omega) (.slice Z nz cz)).setOther (a := ⟨w.heap.size + 1, 1, none⟩) (by simp; omega) (.slice (some ⟨w1.heap.size, 0, none⟩) n n)
        exact ⟨HFL.out, by omega, HFB.out, .inr ⟨_, _, rfl, fun t ht => by rw [Nat.zero_add]; exact hr8.cell ht⟩⟩
      · exact (HB6.out.setCell (p := ⟨w.heap.size + 1, 0, none⟩) (by simp) _).setCell (p := ⟨w.heap.size + 1, 1, none⟩) (by simp) _
end Go.Proofs.YteoobeldmicjhaaGreat.V
