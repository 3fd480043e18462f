/-
  Contract: adjointref2.ruled, by kind. Contracts: array.Dims, adjointref2.Dims. Contract: array.Do, whatever it is asked, over what 'work' does.
-/
import Derived.Test.YteoobeldmicjhaaGreatPRKArrayRows32
import Derived.Test.YteoobeldmicjhaaGreatPRKArrayRows28
import Derived.Test.YteoobeldmicjhaaGreatPRKArrayRows20
import Derived.Test.YteoobeldmicjhaaGreatPRKArrayRows21
import Derived.Test.YteoobeldmicjhaaGreatPRKArrayRows30
import Derived.Test.YteoobeldmicjhaaGreatPRKArrayRows29
namespace Go.Proofs.YteoobeldmicjhaaGreat.V
set_option maxRecDepth 20000
open Go.RowKit

set_option maxRecDepth 100000 in
set_option maxHeartbeats 2000000 in
theorem ruled_19 (x : Int) (ea : Option Addr) (el ec : Nat) (es : List Int) (pa : Option Addr) (pl pc : Nat) (ps : List Int) (la : Option Addr) (ll lc : Nat) (lo : List Int) (ha : Option Addr) (hl hc : Nat) (hi : List Int) (ta : Option Addr) (tl tc : Nat) (st : List Int) (A : Option Addr) (len cap : Nat) (xss : List (List Int)) (w : World)
    (he : Lst w ea el ec es) (hp : Lst w pa pl pc ps) (hlo : Lst w la ll lc lo) (hhi : Lst w ha hl hc hi) (hst : Lst w ta tl tc st) (h : Lsts w A len xss) (hcap : len ≤ cap) (hz : ∀ d ∈ xss, sizeE d = 0) (hn : len = 2) (hlen : len ≤ 1048576) (b0 : el ≤ 1048576) (b1 : pl ≤ 1048576) (b2 : ll ≤ 1048576) (b3 : hl ≤ 1048576) (b4 : tl ≤ 1048576) :
    Calls Tryz.prog 28 #[.agg #[.int .i64 19, .slice ea el ec, .slice pa pl pc, .slice la ll lc, .slice ha hl hc, .slice ta tl tc, .int .i64 x], .slice A len cap] w fun e w' => OutP e w' (putP es (xss[0]?.getD []) (xss[1]?.getD [])) ∧ Below w.heap.size w w' := by
  have zz := And.intro hcap (And.intro hlen (And.intro hn (And.intro b0 (And.intro b1 (And.intro b2 (And.intro b3 b4))))))
  clear zz
  have HE := hide he
  have HP := hide hp
  have HLO := hide hlo
  have HHI := hide hhi
  have HST := hide hst
  have H := hide h
  have HN := hide h.1
  have HZ := hide hz
  have HB1 := hide ((Below.refl w.heap.size w).alloc (Nat.le_refl _) (.cells #[.int .i64 19, .slice ea el ec, .slice pa pl pc, .slice la ll lc, .slice ha hl hc, .slice ta tl tc, .int .i64 x] 31))
  have HOP := hide (OpAt.new w 19 (.slice ea el ec) (.slice pa pl pc) (.slice la ll lc) (.slice ha hl hc) (.slice ta tl tc) x)
  obtain ⟨o0, o1, o2, o3, o4, o5, o6⟩ := HOP.out.cells
  obtain ⟨b, off, rfl, hc⟩ := h.at (by omega)
  obtain ⟨X0, m0, c0, hc0, hl0⟩ := hc 0 (by omega)
  have hc0' : w.cell? ⟨b, off, none⟩ = some (.slice X0 m0 c0) := hc0
  obtain ⟨ds, hds⟩ : ∃ ds, ds = xss[0]?.getD [] := ⟨_, rfl⟩
  rw [← hds] at hl0 ⊢
  have HL0 := hide hl0
  have HC0 := hide hc0'
  have hzd : sizeE ds = 0 := by rw [hds]; exact hz _ (mem_getDL xss 0 (by rw [h.1]; omega))
  have HZD := hide hzd
  have h06 : m0 ≤ 6 := by have := (sizeE_ok hzd).1; have := hl0.1.1; omega
  have HD1 := hide (HL0.out.below HB1.out)
  have q0 := (HB1.out.cell (p := ⟨b, off, none⟩) (lt_of_cell hc0')).trans hc0'
  have i0 : (0 : Int) < (len : Int) := by omega
  obtain ⟨X1, m1, c1, hc1, hl1⟩ := hc 1 (by omega)
  obtain ⟨ds1, hds1⟩ : ∃ ds1, ds1 = xss[1]?.getD [] := ⟨_, rfl⟩
  rw [← hds1] at hl1 ⊢
  have HL1 := hide hl1
  have HCC : Hid (w.cell? ⟨b, off + 1, none⟩ = some (.slice X1 m1 c1)) := hc1
  have hzd1 : sizeE ds1 = 0 := by rw [hds1]; exact hz _ (mem_getDL xss 1 (by rw [h.1]; omega))
  have h16 : m1 ≤ 6 := by have := (sizeE_ok hzd1).1; have := hl1.1.1; omega
  have q1 := (HB1.out.cell (p := ⟨b, off + 1, none⟩) (lt_of_cell hc1)).trans hc1
  have i1 : (1 : Int) < (len : Int) := by omega
  clear h he hp hlo hhi hst hz hc hc0 hc0' hl0 hds hzd hc1 hl1 hds1 hzd1
  have HN0 := hide HL0.out.1.1
  have HN1 := hide HL1.out.1.1
  have HNE := hide HE.out.1.1
  by_cases c1 : el = 1
  case neg =>
    have hp : putP es ds ds1 = ([], 6) := by unfold putP; rw [if_pos (by rw [HNE.out]; exact c1)]
    rw [hp]
    have q : ((el : Int) != 1) = true := by simp; omega
    clear hp c1
    go_enter Tryz.func28, Tryz.ntmps28
    go_wp2_with fail
    go_quiet (fail)
    go_wp2
    go_ret2
    exact ⟨outP_none _ _, Below.on HB1.out (below_drewN _ _)⟩
  subst c1
  by_cases c2 : m0 < m1
  · have hp : putP es ds ds1 = ([], 6) := by unfold putP; rw [if_neg (by rw [HNE.out]; simp), if_pos (by rw [HN0.out, HN1.out]; exact c2)]
    rw [hp]
    have q : decide (m0 < m1) = true := decide_eq_true c2
    have q' : decide ((m0 : Int) < (m1 : Int)) = true := decide_eq_true (by omega)
    clear hp
    go_enter Tryz.func28, Tryz.ntmps28
    go_wp2_with fail
    go_quiet (fail)
    go_wp2
    go_ret2
    exact ⟨outP_none _ _, Below.on HB1.out (below_drewN _ _)⟩
  have q2 : decide (m0 < m1) = false := decide_eq_false c2
  have q2' : decide ((m0 : Int) < (m1 : Int)) = false := decide_eq_false (by omega)
  have hcap0 := HL0.out.2.1
  have HT := hide (lst_take HL0.out m1 (by omega))
  have HSL : Hid (∀ n c1 c2, Calls Tryz.prog 10 #[.slice X0 m1 c1, .slice X1 m1 c2] ((w.alloc (.cells #[.int .i64 19, .slice ea 1 ec, .slice pa pl pc, .slice la ll lc, .slice ha hl hc, .slice ta tl tc, .int .i64 x] 31)).drewN n) fun e w' => e = .returned (.bool (decide (ds.take m1 = ds1))) ∧ ∃ k, w' = ((w.alloc (.cells #[.int .i64 19, .slice ea 1 ec, .slice pa pl pc, .slice la ll lc, .slice ha hl hc, .slice ta tl tc, .int .i64 x] 31)).drewN n).drewN k) := fun n c1 c2 => sameList_any _ _ _ (ds.take m1) _ _ _ ds1 _ (HT.out.1.below (Below.on HB1.out (below_drewN _ n))) (HL1.out.1.below (Below.on HB1.out (below_drewN _ n)))
  have HPF : Hid (¬ ds.take m1 = ds1 → putP es ds ds1 = ([], 6)) := fun c3 => by unfold putP; rw [if_neg (by rw [HNE.out]; simp), if_neg (by rw [HN0.out, HN1.out]; exact c2), if_neg (by rw [HN1.out]; exact c3)]
  have HPT : Hid (ds.take m1 = ds1 → putP es ds ds1 = (es ++ ds.drop m1, 0)) := fun c3 => by unfold putP; rw [if_neg (by rw [HNE.out]; simp), if_neg (by rw [HN0.out, HN1.out]; exact c2), if_pos (by rw [HN1.out]; exact c3), HN1.out]
  obtain ⟨B, hBB⟩ : ∃ B, B = decide (ds.take m1 = ds1) := ⟨_, rfl⟩
  rw [← hBB] at HSL
  have HBB := hide hBB
  have hle : m1 ≤ m0 := by omega
  clear hBB c2
  go_enter Tryz.func28, Tryz.ntmps28
  go_wp2_with fail
  go_cut [158] (fun t wc => t = .bool (!B) ∧ Below (w.heap.size + 1) (w.alloc (.cells #[.int .i64 19, .slice ea 1 ec, .slice pa pl pc, .slice la ll lc, .slice ha hl hc, .slice ta tl tc, .int .i64 x] 31)) wc)
  case first =>
    go_quiet ((go_at_call 10; exact Calls.quiet_of (HSL.out _ _ _)))
    go_wp2
    go_meet
    exact ⟨rfl, below_drewN _ _⟩
  case rest =>
    obtain ⟨rfl, hW⟩ := hcut
    have hW' : Below (w.alloc (.cells #[.int .i64 19, .slice ea 1 ec, .slice pa pl pc, .slice la ll lc, .slice ha hl hc, .slice ta tl tc, .int .i64 x] 31)).heap.size (w.alloc (.cells #[.int .i64 19, .slice ea 1 ec, .slice pa pl pc, .slice la ll lc, .slice ha hl hc, .slice ta tl tc, .int .i64 x] 31)) wc := by simpa using hW
    have HBC := hide (Below.on HB1.out hW')
    have HOC := hide (HOP.out.below hW')
    clear hW hW' o0 o1 o2 o3 o4 o5 o6 q0 q1
    obtain ⟨o0, o1, o2, o3, o4, o5, o6⟩ := HOC.out.cells
    have q0 := (HBC.out.cell (p := ⟨b, off, none⟩) (lt_of_cell HC0.out)).trans HC0.out
    have q1 := (HBC.out.cell (p := ⟨b, off + 1, none⟩) (lt_of_cell HCC.out)).trans HCC.out
    clear q2 q2' HSL HT
    cases B with
    | false =>
      go_wp2
      go_ret2
      rw [HPF.out (of_decide_eq_false HBB.out.symm)]
      exact ⟨outP_none _ _, HBC.out⟩
    | true =>
      have HPP := hide (HPT.out (of_decide_eq_true HBB.out.symm))
      clear HPF HPT HBB
      cases X0 with
      | none =>
        obtain rfl : m0 = 0 := by
          rcases HL0.out.1.2.2.2 with e | ⟨_, _, e, _⟩
          · exact e
          · cases e
        obtain rfl : m1 = 0 := by omega
        have HL : Hid (Lst w none 0 c0 (ds.drop 0)) := by rw [Hid, List.drop_zero]; exact HL0.out
        go_wp2_with fail
        have j1 : (0 : Int) ≤ (0 : Int) := Int.natCast_nonneg _
        have j2 : (0 : Int) ≤ (0 : Int) := by omega
        have j3 : (0 : Int) ≤ (c0 : Int) := by omega
        go_region_held3 (fun w' => w'.cell? ⟨b, off, none⟩ = some (.slice none 0 c0) ∧ w'.cell? ⟨b, off + 1, none⟩ = some (.slice X1 0 c1) ∧ w'.cell? ⟨w.heap.size, 1, none⟩ = some (.slice ea 1 ec)) (refine ⟨?_, ?_, ?_⟩ <;> with_reducible (repeat (first | assumption | apply drew_cell))) ((first | (go_at_call 37; refine (both_any _ _ _ es _ _ _ _ _ (HE.out.below HBC.out.drew) (HL.out.below HBC.out.drew) (by omega)).mono ?_; rintro e w1 ⟨⟨v1, rfl, hv⟩, hb⟩; have HV := hide hv; have HB2 := hide (Below.on HBC.out.drew hb); have s0 := (hb.cell (p := ⟨b, off, none⟩) (lt_of_cell (drew_cell q0))).trans (drew_cell q0); have s1 := (hb.cell (p := ⟨b, off + 1, none⟩) (lt_of_cell (drew_cell q1))).trans (drew_cell q1); have s2 := (hb.cell (p := ⟨w.heap.size, 1, none⟩) (lt_of_cell (drew_cell o1))).trans (drew_cell o1); clear hv hb)))
        all_goals go_wp2
        all_goals go_ret2
        all_goals rw [HPP.out]
        all_goals exact ⟨outP_new HV.out 0, HB2.out⟩
      | some p0 =>
      by_cases cc : c0 = m1
      · obtain rfl := cc.symm
        obtain rfl : m0 = m1 := by omega
        have HL : Hid (Lst w (some p0) 0 0 (ds.drop m0)) := by
          rw [List.drop_eq_nil_of_le (by rw [HN0.out]; exact Nat.le_refl _)]; exact lst_empty w _ _
        go_wp2_with fail
        have j1 : (0 : Int) ≤ (m0 : Int) := Int.natCast_nonneg _
        have j2 : (m0 : Int) ≤ (m0 : Int) := by omega
        have j3 : (m0 : Int) ≤ (m0 : Int) := by omega
        go_region_held3 (fun w' => w'.cell? ⟨b, off, none⟩ = some (.slice (some p0) m0 m0) ∧ w'.cell? ⟨b, off + 1, none⟩ = some (.slice X1 m0 c1) ∧ w'.cell? ⟨w.heap.size, 1, none⟩ = some (.slice ea 1 ec)) (refine ⟨?_, ?_, ?_⟩ <;> with_reducible (repeat (first | assumption | apply drew_cell))) ((first | (go_at_call 37; refine (both_any _ _ _ es _ _ _ _ _ (HE.out.below HBC.out.drew) (HL.out.below HBC.out.drew) (by omega)).mono ?_; rintro e w1 ⟨⟨v1, rfl, hv⟩, hb⟩; have HV := hide hv; have HB2 := hide (Below.on HBC.out.drew hb); have s0 := (hb.cell (p := ⟨b, off, none⟩) (lt_of_cell (drew_cell q0))).trans (drew_cell q0); have s1 := (hb.cell (p := ⟨b, off + 1, none⟩) (lt_of_cell (drew_cell q1))).trans (drew_cell q1); have s2 := (hb.cell (p := ⟨w.heap.size, 1, none⟩) (lt_of_cell (drew_cell o1))).trans (drew_cell o1); clear hv hb)))
        all_goals go_wp2
        all_goals go_ret2
        all_goals rw [HPP.out]
        all_goals exact ⟨outP_new HV.out 0, HB2.out⟩
      by_cases cz : m0 = 0
      · subst cz
        obtain rfl : m1 = 0 := by omega
        have HL : Hid (Lst w (some p0) 0 c0 (ds.drop 0)) := by rw [Hid, List.drop_zero]; exact HL0.out
        go_wp2_with fail
        have j1 : (0 : Int) ≤ (0 : Int) := Int.natCast_nonneg _
        have j2 : (0 : Int) ≤ (0 : Int) := by omega
        have j3 : (0 : Int) ≤ (c0 : Int) := by omega
        go_region_held3 (fun w' => w'.cell? ⟨b, off, none⟩ = some (.slice (some p0) 0 c0) ∧ w'.cell? ⟨b, off + 1, none⟩ = some (.slice X1 0 c1) ∧ w'.cell? ⟨w.heap.size, 1, none⟩ = some (.slice ea 1 ec)) (refine ⟨?_, ?_, ?_⟩ <;> with_reducible (repeat (first | assumption | apply drew_cell))) ((first | (go_at_call 37; refine (both_any _ _ _ es _ _ _ _ _ (HE.out.below HBC.out.drew) (HL.out.below HBC.out.drew) (by omega)).mono ?_; rintro e w1 ⟨⟨v1, rfl, hv⟩, hb⟩; have HV := hide hv; have HB2 := hide (Below.on HBC.out.drew hb); have s0 := (hb.cell (p := ⟨b, off, none⟩) (lt_of_cell (drew_cell q0))).trans (drew_cell q0); have s1 := (hb.cell (p := ⟨b, off + 1, none⟩) (lt_of_cell (drew_cell q1))).trans (drew_cell q1); have s2 := (hb.cell (p := ⟨w.heap.size, 1, none⟩) (lt_of_cell (drew_cell o1))).trans (drew_cell o1); clear hv hb)))
        all_goals go_wp2
        all_goals go_ret2
        all_goals rw [HPP.out]
        all_goals exact ⟨outP_new HV.out 0, HB2.out⟩
      · obtain ⟨bb, offb, e, hbb, hcc⟩ := HL0.out.1.at (by omega)
        cases e
        have HL := hide (lst_drop HL0.out m1 (by omega))
        clear hcc
        go_wp2_with fail
        have j1 : (0 : Int) ≤ (m1 : Int) := Int.natCast_nonneg _
        have j2 : (m1 : Int) ≤ (m0 : Int) := by omega
        have j3 : (m1 : Int) ≤ (c0 : Int) := by omega
        go_region_held3 (fun w' => w'.cell? ⟨b, off, none⟩ = some (.slice (some ⟨bb, offb, none⟩) m0 c0) ∧ w'.cell? ⟨b, off + 1, none⟩ = some (.slice X1 m1 c1) ∧ w'.cell? ⟨w.heap.size, 1, none⟩ = some (.slice ea 1 ec)) (refine ⟨?_, ?_, ?_⟩ <;> with_reducible (repeat (first | assumption | apply drew_cell))) ((first | (go_at_call 37; refine (both_any _ _ _ es _ _ _ _ _ (HE.out.below HBC.out.drew) (HL.out.below HBC.out.drew) (by omega)).mono ?_; rintro e w1 ⟨⟨v1, rfl, hv⟩, hb⟩; have HV := hide hv; have HB2 := hide (Below.on HBC.out.drew hb); have s0 := (hb.cell (p := ⟨b, off, none⟩) (lt_of_cell (drew_cell q0))).trans (drew_cell q0); have s1 := (hb.cell (p := ⟨b, off + 1, none⟩) (lt_of_cell (drew_cell q1))).trans (drew_cell q1); have s2 := (hb.cell (p := ⟨w.heap.size, 1, none⟩) (lt_of_cell (drew_cell o1))).trans (drew_cell o1); clear hv hb)))
        all_goals go_wp2
        all_goals go_ret2
        all_goals rw [HPP.out]
        all_goals exact ⟨outP_new HV.out 0, HB2.out⟩
end Go.Proofs.YteoobeldmicjhaaGreat.V
namespace Go.Proofs.YteoobeldmicjhaaGreat.V
set_option maxRecDepth 20000
open Go.RowKit

/-- What the table says of an operation on dimensions. -/
def shapeP (k : Int) (es ps lo hi st : List Int) (xss : List (List Int)) : List Int × Int := if k = 2 then (es, 0) else if k = 9 then (okL (sprE 0 (xss[0]?.getD []) (stepsV (xss[0]?.getD [])) es ps) es, sprE 0 (xss[0]?.getD []) (stepsV (xss[0]?.getD [])) es ps) else if k = 10 then sumP (xss[0]?.getD []) ps else if k = 11 then (okL (turnE 0 (xss[0]?.getD []) (stepsV (xss[0]?.getD [])) ps) (taken (xss[0]?.getD []) ps), turnE 0 (xss[0]?.getD []) (stepsV (xss[0]?.getD [])) ps) else if k = 12 then reformP (xss[0]?.getD []) es else if k = 13 then (okL (cutE 0 (xss[0]?.getD []) (stepsV (xss[0]?.getD [])) lo hi st) (cutD (xss[0]?.getD []) lo hi st), cutE 0 (xss[0]?.getD []) (stepsV (xss[0]?.getD [])) lo hi st) else if k = 14 then padP (xss[0]?.getD []) lo hi st else if k = 15 then (okL (flipE 0 (xss[0]?.getD []) (stepsV (xss[0]?.getD [])) ps) (xss[0]?.getD []), flipE 0 (xss[0]?.getD []) (stepsV (xss[0]?.getD [])) ps) else if k = 16 then dotP ps st lo hi (xss[0]?.getD []) (xss[1]?.getD []) else if k = 17 then joinP ps xss else if k = 18 then takeP (xss[0]?.getD []) (xss[1]?.getD []) else if k = 19 then putP es (xss[0]?.getD []) (xss[1]?.getD []) else sameP xss
/-- What is wrong with the first list with which something is. -/
def sizesE : List (List Int) → Int
  | [] => 0
  | d :: r => if sizeE d = 0 then sizesE r else sizeE d
theorem sizesE_ok : ∀ xss : List (List Int), sizesE xss = 0 → ∀ d ∈ xss, sizeE d = 0
  | [], _, d, hd => by cases hd
  | x :: r, h, d, hd => by
    rw [sizesE] at h
    by_cases c : sizeE x = 0
    · rw [if_pos c] at h
      rcases List.mem_cons.1 hd with e | e
      · rw [e]; exact c
      · exact sizesE_ok r h d e
    · rw [if_neg c] at h; exact absurd h c
theorem sizesE_at : ∀ (xss : List (List Int)) (j : Nat), (∀ t, t < j → sizeE (xss[t]?.getD []) = 0) → j < xss.length → sizeE (xss[j]?.getD []) ≠ 0 → sizesE xss = sizeE (xss[j]?.getD [])
  | [], j, _, h, _ => by simp at h
  | x :: r, 0, _, _, hne => by
    have e : ((x :: r)[0]?.getD []) = x := by simp
    rw [e] at hne ⊢
    rw [sizesE, if_neg hne]
  | x :: r, j + 1, h0, hj, hne => by
    have c := h0 0 (by omega)
    have e : ((x :: r)[0]?.getD []) = x := by simp
    rw [e] at c
    have e2 : ((x :: r)[j + 1]?.getD []) = r[j]?.getD [] := by simp
    rw [e2] at hne ⊢
    rw [sizesE, if_pos c]
    refine sizesE_at r j (fun t ht => ?_) (by simpa using hj) hne
    have := h0 (t + 1) (by omega)
    simpa using this
theorem sizesE_all : ∀ (xss : List (List Int)), (∀ t, t < xss.length → sizeE (xss[t]?.getD []) = 0) → sizesE xss = 0
  | [], _ => rfl
  | x :: r, h => by
    have c := h 0 (by simp)
    have e : ((x :: r)[0]?.getD []) = x := by simp
    rw [e] at c
    rw [sizesE, if_pos c]
    refine sizesE_all r (fun t ht => ?_)
    have := h (t + 1) (by simpa using ht)
    simpa using this
/-- What Dims answers. -/
def dimsP (k : Int) (es ps lo hi st : List Int) (xss : List (List Int)) : List Int × Int :=
  if takesE k xss.length ≠ 0 then ([], takesE k xss.length)
  else if sizesE xss ≠ 0 then ([], sizesE xss)
  else if (shapeP k es ps lo hi st xss).2 ≠ 0 then ([], (shapeP k es ps lo hi st xss).2)
  else if sizeE (shapeP k es ps lo hi st xss).1 ≠ 0 then ([], sizeE (shapeP k es ps lo hi st xss).1)
  else ((shapeP k es ps lo hi st xss).1, 0)
theorem takes_ok {k : Int} {n : Nat} (h : takesE k n = 0) : (k = 2 ∧ n = 0) ∨ (9 ≤ k ∧ k ≤ 15 ∧ n = 1) ∨ ((k = 16 ∨ k = 18 ∨ k = 19) ∧ n = 2) ∨ (3 ≤ k ∧ k ≤ 8 ∧ 1 ≤ n) ∨ (k = 17 ∧ 1 ≤ n) := by
  unfold takesE at h
  by_cases c1 : k = 2
  · rw [if_pos c1] at h
    by_cases d : n = 0
    · exact .inl ⟨c1, d⟩
    · rw [if_neg d] at h; omega
  rw [if_neg c1] at h
  by_cases c2 : 9 ≤ k ∧ k ≤ 15
  · rw [if_pos c2] at h
    by_cases d : n = 1
    · exact .inr (.inl ⟨c2.1, c2.2, d⟩)
    · rw [if_neg d] at h; omega
  rw [if_neg c2] at h
  by_cases c3 : (3 ≤ k ∧ k ≤ 7) ∨ k = 16 ∨ k = 18 ∨ k = 19
  · rw [if_pos c3] at h
    by_cases d : n = 2
    · omega
    · rw [if_neg d] at h; omega
  rw [if_neg c3] at h
  by_cases c4 : k = 8
  · rw [if_pos c4] at h
    by_cases d : n = 3
    · omega
    · rw [if_neg d] at h; omega
  rw [if_neg c4] at h
  by_cases c5 : k = 17
  · rw [if_pos c5] at h
    by_cases d : n = 0
    · rw [if_pos d] at h; omega
    · omega
  rw [if_neg c5] at h; omega

theorem shape_any (k x : Int) (ea : Option Addr) (el ec : Nat) (es : List Int) (pa : Option Addr) (pl pc : Nat) (ps : List Int) (la : Option Addr) (ll lc : Nat) (lo : List Int) (ha : Option Addr) (hl hc : Nat) (hi : List Int) (ta : Option Addr) (tl tc : Nat) (st : List Int) (A : Option Addr) (len cap : Nat) (xss : List (List Int)) (w : World)
    (he : Lst w ea el ec es) (hp : Lst w pa pl pc ps) (hlo : Lst w la ll lc lo) (hhi : Lst w ha hl hc hi) (hst : Lst w ta tl tc st) (h : Lsts w A len xss) (hcap : len ≤ cap) (hlen : len ≤ 1048576) (b0 : el ≤ 1048576) (b1 : pl ≤ 1048576) (b2 : ll ≤ 1048576) (b3 : hl ≤ 1048576) (b4 : tl ≤ 1048576) (hz : ∀ d ∈ xss, sizeE d = 0) (ht : takesE k len = 0) :
    Calls Tryz.prog 41 #[.agg #[.int .i64 k, .slice ea el ec, .slice pa pl pc, .slice la ll lc, .slice ha hl hc, .slice ta tl tc, .int .i64 x], .slice A len cap] w fun e w' => OutP e w' (shapeP k es ps lo hi st xss) ∧ Below w.heap.size w w' := by
  rcases takes_ok ht with ⟨rfl, hn⟩ | ⟨h9, h15, hn⟩ | ⟨hk, hn⟩ | ⟨h3, h8, hn⟩ | ⟨rfl, hn⟩
  · exact shape_2 x ea el ec es pa pl pc ps la ll lc lo ha hl hc hi ta tl tc st A len cap xss w he hp hlo hhi hst h hcap hz hn hlen b0 b1 b2 b3 b4
  · have hk : k = 9 ∨ k = 10 ∨ k = 11 ∨ k = 12 ∨ k = 13 ∨ k = 14 ∨ k = 15 := by omega
    rcases hk with rfl | rfl | rfl | rfl | rfl | rfl | rfl
    · exact shape_9 x ea el ec es pa pl pc ps la ll lc lo ha hl hc hi ta tl tc st A len cap xss w he hp hlo hhi hst h hcap hz hn hlen b0 b1 b2 b3 b4
    · exact shape_10 x ea el ec es pa pl pc ps la ll lc lo ha hl hc hi ta tl tc st A len cap xss w he hp hlo hhi hst h hcap hz hn hlen b0 b1 b2 b3 b4
    · exact shape_11 x ea el ec es pa pl pc ps la ll lc lo ha hl hc hi ta tl tc st A len cap xss w he hp hlo hhi hst h hcap hz hn hlen b0 b1 b2 b3 b4
    · exact shape_12 x ea el ec es pa pl pc ps la ll lc lo ha hl hc hi ta tl tc st A len cap xss w he hp hlo hhi hst h hcap hz hn hlen b0 b1 b2 b3 b4
    · exact shape_13 x ea el ec es pa pl pc ps la ll lc lo ha hl hc hi ta tl tc st A len cap xss w he hp hlo hhi hst h hcap hz hn hlen b0 b1 b2 b3 b4
    · exact shape_14 x ea el ec es pa pl pc ps la ll lc lo ha hl hc hi ta tl tc st A len cap xss w he hp hlo hhi hst h hcap hz hn hlen b0 b1 b2 b3 b4
    · exact shape_15 x ea el ec es pa pl pc ps la ll lc lo ha hl hc hi ta tl tc st A len cap xss w he hp hlo hhi hst h hcap hz hn hlen b0 b1 b2 b3 b4
  · rcases hk with rfl | rfl | rfl
    · exact shape_16 x ea el ec es pa pl pc ps la ll lc lo ha hl hc hi ta tl tc st A len cap xss w he hp hlo hhi hst h hcap hz hn hlen b0 b1 b2 b3 b4
    · exact shape_18 x ea el ec es pa pl pc ps la ll lc lo ha hl hc hi ta tl tc st A len cap xss w he hp hlo hhi hst h hcap hz hn hlen b0 b1 b2 b3 b4
    · exact shape_19 x ea el ec es pa pl pc ps la ll lc lo ha hl hc hi ta tl tc st A len cap xss w he hp hlo hhi hst h hcap hz hn hlen b0 b1 b2 b3 b4
  · have hs : shapeP k es ps lo hi st xss = sameP xss := by
      unfold shapeP
      rw [if_neg (by omega), if_neg (by omega), if_neg (by omega), if_neg (by omega), if_neg (by omega), if_neg (by omega), if_neg (by omega), if_neg (by omega), if_neg (by omega), if_neg (by omega), if_neg (by omega), if_neg (by omega)]
    rw [hs]
    exact shape_same k x ea el ec es pa pl pc ps la ll lc lo ha hl hc hi ta tl tc st A len cap xss w he hp hlo hhi hst h hcap hz ⟨h3, h8⟩ hn hlen b0 b1 b2 b3 b4
  · exact shape_17 x ea el ec es pa pl pc ps la ll lc lo ha hl hc hi ta tl tc st A len cap xss w he hp hlo hhi hst h hcap hz hn hlen b0 b1 b2 b3 b4

theorem ruled_any (k x : Int) (ea : Option Addr) (el ec : Nat) (es : List Int) (pa : Option Addr) (pl pc : Nat) (ps : List Int) (la : Option Addr) (ll lc : Nat) (lo : List Int) (ha : Option Addr) (hl hc : Nat) (hi : List Int) (ta : Option Addr) (tl tc : Nat) (st : List Int) (A : Option Addr) (len cap : Nat) (xss : List (List Int)) (w : World)
    (he : Lst w ea el ec es) (hp : Lst w pa pl pc ps) (hlo : Lst w la ll lc lo) (hhi : Lst w ha hl hc hi) (hst : Lst w ta tl tc st) (h : Lsts w A len xss) (hcap : len ≤ cap) (hlen : len ≤ 1048576) (b0 : el ≤ 1048576) (b1 : pl ≤ 1048576) (b2 : ll ≤ 1048576) (b3 : hl ≤ 1048576) (b4 : tl ≤ 1048576) (hz : ∀ d ∈ xss, sizeE d = 0) (ht : takesE k len = 0) :
    Calls Tryz.prog 28 #[.agg #[.int .i64 k, .slice ea el ec, .slice pa pl pc, .slice la ll lc, .slice ha hl hc, .slice ta tl tc, .int .i64 x], .slice A len cap] w fun e w' => OutP e w' (shapeP k es ps lo hi st xss) ∧ Below w.heap.size w w' := by
  rcases takes_ok ht with ⟨rfl, hn⟩ | ⟨h9, h15, hn⟩ | ⟨hk, hn⟩ | ⟨h3, h8, hn⟩ | ⟨rfl, hn⟩
  · exact ruled_2 x ea el ec es pa pl pc ps la ll lc lo ha hl hc hi ta tl tc st A len cap xss w he hp hlo hhi hst h hcap hz hn hlen b0 b1 b2 b3 b4
  · have hk : k = 9 ∨ k = 10 ∨ k = 11 ∨ k = 12 ∨ k = 13 ∨ k = 14 ∨ k = 15 := by omega
    rcases hk with rfl | rfl | rfl | rfl | rfl | rfl | rfl
    · exact ruled_9 x ea el ec es pa pl pc ps la ll lc lo ha hl hc hi ta tl tc st A len cap xss w he hp hlo hhi hst h hcap hz hn hlen b0 b1 b2 b3 b4
    · exact ruled_10 x ea el ec es pa pl pc ps la ll lc lo ha hl hc hi ta tl tc st A len cap xss w he hp hlo hhi hst h hcap hz hn hlen b0 b1 b2 b3 b4
    · exact ruled_11 x ea el ec es pa pl pc ps la ll lc lo ha hl hc hi ta tl tc st A len cap xss w he hp hlo hhi hst h hcap hz hn hlen b0 b1 b2 b3 b4
    · exact ruled_12 x ea el ec es pa pl pc ps la ll lc lo ha hl hc hi ta tl tc st A len cap xss w he hp hlo hhi hst h hcap hz hn hlen b0 b1 b2 b3 b4
    · exact ruled_13 x ea el ec es pa pl pc ps la ll lc lo ha hl hc hi ta tl tc st A len cap xss w he hp hlo hhi hst h hcap hz hn hlen b0 b1 b2 b3 b4
    · exact ruled_14 x ea el ec es pa pl pc ps la ll lc lo ha hl hc hi ta tl tc st A len cap xss w he hp hlo hhi hst h hcap hz hn hlen b0 b1 b2 b3 b4
    · exact ruled_15 x ea el ec es pa pl pc ps la ll lc lo ha hl hc hi ta tl tc st A len cap xss w he hp hlo hhi hst h hcap hz hn hlen b0 b1 b2 b3 b4
  · rcases hk with rfl | rfl | rfl
    · exact ruled_16 x ea el ec es pa pl pc ps la ll lc lo ha hl hc hi ta tl tc st A len cap xss w he hp hlo hhi hst h hcap hz hn hlen b0 b1 b2 b3 b4
    · exact ruled_18 x ea el ec es pa pl pc ps la ll lc lo ha hl hc hi ta tl tc st A len cap xss w he hp hlo hhi hst h hcap hz hn hlen b0 b1 b2 b3 b4
    · exact ruled_19 x ea el ec es pa pl pc ps la ll lc lo ha hl hc hi ta tl tc st A len cap xss w he hp hlo hhi hst h hcap hz hn hlen b0 b1 b2 b3 b4
  · have hs : shapeP k es ps lo hi st xss = sameP xss := by
      unfold shapeP
      rw [if_neg (by omega), if_neg (by omega), if_neg (by omega), if_neg (by omega), if_neg (by omega), if_neg (by omega), if_neg (by omega), if_neg (by omega), if_neg (by omega), if_neg (by omega), if_neg (by omega), if_neg (by omega)]
    rw [hs]
    exact ruled_same k x ea el ec es pa pl pc ps la ll lc lo ha hl hc hi ta tl tc st A len cap xss w he hp hlo hhi hst h hcap hz ⟨h3, h8⟩ hn hlen b0 b1 b2 b3 b4
  · exact ruled_17 x ea el ec es pa pl pc ps la ll lc lo ha hl hc hi ta tl tc st A len cap xss w he hp hlo hhi hst h hcap hz hn hlen b0 b1 b2 b3 b4

set_option maxRecDepth 100000 in
set_option maxHeartbeats 4000000 in
theorem Dims_any (k x : Int) (ea : Option Addr) (el ec : Nat) (es : List Int) (pa : Option Addr) (pl pc : Nat) (ps : List Int) (la : Option Addr) (ll lc : Nat) (lo : List Int) (ha : Option Addr) (hl hc : Nat) (hi : List Int) (ta : Option Addr) (tl tc : Nat) (st : List Int) (A : Option Addr) (len cap : Nat) (xss : List (List Int)) (w : World)
    (he : Lst w ea el ec es) (hp : Lst w pa pl pc ps) (hlo : Lst w la ll lc lo) (hhi : Lst w ha hl hc hi) (hst : Lst w ta tl tc st) (h : Lsts w A len xss) (hcap : len ≤ cap) (hlen : len ≤ 1048576) (b0 : el ≤ 1048576) (b1 : pl ≤ 1048576) (b2 : ll ≤ 1048576) (b3 : hl ≤ 1048576) (b4 : tl ≤ 1048576) :
    Calls Tryz.prog 22 #[.agg #[.int .i64 k, .slice ea el ec, .slice pa pl pc, .slice la ll lc, .slice ha hl hc, .slice ta tl tc, .int .i64 x], .slice A len cap] w fun e w' => OutP e w' (dimsP k es ps lo hi st xss) ∧ Below w.heap.size w w' := by
  have hmx := h.2.1
  have H := hide h
  have HN := hide h.1
  have HE := hide he
  have HP := hide hp
  have HLO := hide hlo
  have HHI := hide hhi
  have HST := hide hst
  have HB1 := hide ((Below.refl w.heap.size w).alloc (Nat.le_refl _) (.cells #[.int .i64 k, .slice ea el ec, .slice pa pl pc, .slice la ll lc, .slice ha hl hc, .slice ta tl tc, .int .i64 x] 31))
  have HOP := hide (OpAt.new w k (.slice ea el ec) (.slice pa pl pc) (.slice la ll lc) (.slice ha hl hc) (.slice ta tl tc) x)
  obtain ⟨o0, o1, o2, o3, o4, o5, o6⟩ := HOP.out.cells
  have HDP := hide (show dimsP k es ps lo hi st xss = if takesE k xss.length ≠ 0 then ([], takesE k xss.length) else if sizesE xss ≠ 0 then ([], sizesE xss) else if (shapeP k es ps lo hi st xss).2 ≠ 0 then ([], (shapeP k es ps lo hi st xss).2) else if sizeE (shapeP k es ps lo hi st xss).1 ≠ 0 then ([], sizeE (shapeP k es ps lo hi st xss).1) else ((shapeP k es ps lo hi st xss).1, 0) from rfl)
  clear h he hp hlo hhi hst
  by_cases c1 : takesE k len = 0
  case neg =>
    obtain ⟨T, hT⟩ : ∃ T, T = takesE k len := ⟨_, rfl⟩
    have hp : dimsP k es ps lo hi st xss = ([], T) := by rw [HDP.out, HN.out, if_pos c1, ← hT]
    rw [hp]
    have HT := hide hT
    have q : (T != 0) = true := by rw [hT]; simp [c1]
    clear hp c1 hT
    go_enter Tryz.func22, Tryz.ntmps22
    go_wp2_with (go_at_call 20; refine (takes_any _ _ _).mono ?_; rintro e w' ⟨rfl, hw'⟩; obtain rfl := hw'.symm; rw [← HT.out])
    go_ret2
    exact ⟨outP_none _ _, HB1.out⟩
  have HC1 := hide c1
  clear c1
  go_enter Tryz.func22, Tryz.ntmps22
  go_wp2_with (go_at_call 20; refine (takes_any _ _ _).mono ?_; rintro e w' ⟨rfl, hw'⟩; obtain rfl := hw'.symm; rw [HC1.out])
  go_loopw [25] (fun i wr => ∃ j : Nat, j ≤ len ∧ i = .int .i64 j ∧ (∀ t, t < j → sizeE (xss[t]?.getD []) = 0) ∧ OpAt wr w.heap.size k (.slice ea el ec) (.slice pa pl pc) (.slice la ll lc) (.slice ha hl hc) (.slice ta tl tc) x ∧ Below w.heap.size w wr) (fun i _ => len - (intOf i).toNat)
  case atStart => exact ⟨0, Nat.zero_le _, rfl, fun t ht => by omega, HOP.out, HB1.out⟩
  case round =>
    obtain ⟨j, hj, rfl, hgood, ho, hB⟩ := hrel
    have HG := hide hgood
    have HO := hide ho
    have HB := hide hB
    clear hgood ho hB o0 o1 o2 o3 o4 o5 o6
    by_cases hlt : j < len
    · obtain ⟨b, off, rfl, hc⟩ := H.out.at (by omega)
      obtain ⟨X, m, c, hcj0, hlj⟩ := hc j hlt
      have hcj : wr.cell? ⟨b, off + j, none⟩ = some (.slice X m c) := (HB.out.cell (p := ⟨b, off + j, none⟩) (lt_of_cell hcj0)).trans hcj0
      have HLJ := hide hlj
      clear hlj hcj0 hc
      obtain ⟨T, hT⟩ : ∃ T, T = sizeE (xss[j]?.getD []) := ⟨_, rfl⟩
      have HT := hide hT
      by_cases c2 : T = 0
      · have HT0 : Hid (sizeE (xss[j]?.getD []) = 0) := hT.symm.trans c2
        clear hT c2 HT
        go_wp2_with (go_at_call 40; refine (size_any _ _ _ (xss[j]?.getD []) _ (HLJ.out.1.below HB.out)).mono ?_; rintro e w' ⟨rfl, hw'⟩; obtain rfl := hw'.symm; rw [HT0.out])
        go_roundw
        case rel =>
          refine ⟨j + 1, by omega, by go_num, fun t ht => ?_, HO.out, HB.out⟩
          by_cases e : t = j
          · rw [e]; exact HT0.out
          · exact HG.out t (by omega)
        case measure => simp [intOf]; omega
      · have q : (T != 0) = true := by simp [c2]
        have hsz : sizesE xss = T := by
          rw [hT]
          exact sizesE_at xss j HG.out (by rw [HN.out]; exact hlt) (by rw [← hT]; exact c2)
        have hp : dimsP k es ps lo hi st xss = ([], T) := by rw [HDP.out, HN.out, if_neg (by rw [HC1.out]; simp), hsz, if_pos c2]
        have HPP := hide hp
        clear hp hsz hT c2
        go_wp2_with (go_at_call 40; refine (size_any _ _ _ (xss[j]?.getD []) _ (HLJ.out.1.below HB.out)).mono ?_; rintro e w' ⟨rfl, hw'⟩; obtain rfl := hw'.symm; rw [← HT.out])
        go_ret2
        rw [HPP.out]
        exact ⟨outP_none _ _, HB.out⟩
    · obtain rfl : j = len := by omega
      have hall : sizesE xss = 0 := sizesE_all xss (fun t ht => HG.out t (by rw [HN.out] at ht; exact ht))
      have HZ := hide (sizesE_ok xss hall)
      have HD2 : Hid (dimsP k es ps lo hi st xss = if (shapeP k es ps lo hi st xss).2 ≠ 0 then ([], (shapeP k es ps lo hi st xss).2) else if sizeE (shapeP k es ps lo hi st xss).1 ≠ 0 then ([], sizeE (shapeP k es ps lo hi st xss).1) else ((shapeP k es ps lo hi st xss).1, 0)) := by
        rw [Hid, HDP.out, HN.out, if_neg (by rw [HC1.out]; simp), if_neg (by rw [hall]; simp)]
      have HCS := hide (shape_any k x _ _ _ es _ _ _ ps _ _ _ lo _ _ _ hi _ _ _ st _ _ cap xss wr (HE.out.below HB.out) (HP.out.below HB.out) (HLO.out.below HB.out) (HHI.out.below HB.out) (HST.out.below HB.out) (H.out.below HB.out) hcap hlen b0 b1 b2 b3 b4 HZ.out HC1.out)
      obtain ⟨⟨L, E⟩, hLE⟩ : ∃ r, r = shapeP k es ps lo hi st xss := ⟨_, rfl⟩
      rw [← hLE] at HCS HD2
      have hd2 := HD2.out
      simp only at hd2
      obtain ⟨o0, o1, o2, o3, o4, o5, o6⟩ := HO.out.cells
      clear hall hLE HDP HD2
      by_cases c3 : E = 0
      case neg =>
        have q : (E != 0) = true := by simp [c3]
        rw [if_pos c3] at hd2
        have HPP := hide hd2
        clear hd2 c3
        go_wp2_with (go_at_call 41; refine HCS.out.mono ?_; rintro e w1 ⟨⟨Z, nz, cz, rfl, hi1, hnc⟩, hb⟩; have HB2 := hide (Below.on HB.out hb); clear hi1 hb)
        go_ret2
        rw [HPP.out]
        exact ⟨outP_none _ _, HB2.out⟩
      subst c3
      rw [if_neg (by simp)] at hd2
      obtain ⟨S, hS⟩ : ∃ S, S = sizeE L := ⟨_, rfl⟩
      have HSS := hide hS
      rw [← hS] at hd2
      clear hS
      by_cases c4 : S = 0
      · subst c4
        rw [if_neg (by simp)] at hd2
        have HPP := hide hd2
        clear hd2
        go_wp2_with (first
          | (go_at_call 41; refine HCS.out.mono ?_; rintro e w1 ⟨⟨Z, nz, cz, rfl, hi1, hnc⟩, hb⟩; have HI1 : Hid (Ints w1 Z nz L) := hi1; have HB2 := hide (Below.on HB.out hb); clear hi1 hb)
          | (go_at_call 40; refine (size_any _ _ _ L _ HI1.out).mono ?_; rintro e w' ⟨rfl, hw'⟩; obtain rfl := hw'.symm; rw [← HSS.out]))
        go_ret2
        rw [HPP.out]
        exact ⟨⟨_, _, _, rfl, HI1.out, hnc⟩, HB2.out⟩
      · have q : (S != 0) = true := by simp [c4]
        rw [if_pos c4] at hd2
        have HPP := hide hd2
        clear hd2 c4
        go_wp2_with (first
          | (go_at_call 41; refine HCS.out.mono ?_; rintro e w1 ⟨⟨Z, nz, cz, rfl, hi1, hnc⟩, hb⟩; have HI1 : Hid (Ints w1 Z nz L) := hi1; have HB2 := hide (Below.on HB.out hb); clear hi1 hb)
          | (go_at_call 40; refine (size_any _ _ _ L _ HI1.out).mono ?_; rintro e w' ⟨rfl, hw'⟩; obtain rfl := hw'.symm; rw [← HSS.out]))
        go_ret2
        rw [HPP.out]
        exact ⟨outP_none _ _, HB2.out⟩

set_option maxRecDepth 100000 in
set_option maxHeartbeats 4000000 in
theorem rDims_any (k x : Int) (ea : Option Addr) (el ec : Nat) (es : List Int) (pa : Option Addr) (pl pc : Nat) (ps : List Int) (la : Option Addr) (ll lc : Nat) (lo : List Int) (ha : Option Addr) (hl hc : Nat) (hi : List Int) (ta : Option Addr) (tl tc : Nat) (st : List Int) (A : Option Addr) (len cap : Nat) (xss : List (List Int)) (w : World)
    (he : Lst w ea el ec es) (hp : Lst w pa pl pc ps) (hlo : Lst w la ll lc lo) (hhi : Lst w ha hl hc hi) (hst : Lst w ta tl tc st) (h : Lsts w A len xss) (hcap : len ≤ cap) (hlen : len ≤ 1048576) (b0 : el ≤ 1048576) (b1 : pl ≤ 1048576) (b2 : ll ≤ 1048576) (b3 : hl ≤ 1048576) (b4 : tl ≤ 1048576) :
    Calls Tryz.prog 17 #[.agg #[.int .i64 k, .slice ea el ec, .slice pa pl pc, .slice la ll lc, .slice ha hl hc, .slice ta tl tc, .int .i64 x], .slice A len cap] w fun e w' => OutP e w' (dimsP k es ps lo hi st xss) ∧ Below w.heap.size w w' := by
  have hmx := h.2.1
  have H := hide h
  have HN := hide h.1
  have HE := hide he
  have HP := hide hp
  have HLO := hide hlo
  have HHI := hide hhi
  have HST := hide hst
  have HB1 := hide ((Below.refl w.heap.size w).alloc (Nat.le_refl _) (.cells #[.int .i64 k, .slice ea el ec, .slice pa pl pc, .slice la ll lc, .slice ha hl hc, .slice ta tl tc, .int .i64 x] 31))
  have HOP := hide (OpAt.new w k (.slice ea el ec) (.slice pa pl pc) (.slice la ll lc) (.slice ha hl hc) (.slice ta tl tc) x)
  obtain ⟨o0, o1, o2, o3, o4, o5, o6⟩ := HOP.out.cells
  have HDP := hide (show dimsP k es ps lo hi st xss = if takesE k xss.length ≠ 0 then ([], takesE k xss.length) else if sizesE xss ≠ 0 then ([], sizesE xss) else if (shapeP k es ps lo hi st xss).2 ≠ 0 then ([], (shapeP k es ps lo hi st xss).2) else if sizeE (shapeP k es ps lo hi st xss).1 ≠ 0 then ([], sizeE (shapeP k es ps lo hi st xss).1) else ((shapeP k es ps lo hi st xss).1, 0) from rfl)
  clear h he hp hlo hhi hst
  by_cases c1 : takesE k len = 0
  case neg =>
    obtain ⟨T, hT⟩ : ∃ T, T = takesE k len := ⟨_, rfl⟩
    have hp : dimsP k es ps lo hi st xss = ([], T) := by rw [HDP.out, HN.out, if_pos c1, ← hT]
    rw [hp]
    have HT := hide hT
    have q : (T != 0) = true := by rw [hT]; simp [c1]
    clear hp c1 hT
    go_enter Tryz.func17, Tryz.ntmps17
    go_wp2_with (go_at_call 15; refine (right_any k (.slice ea el ec) (.slice pa pl pc) (.slice la ll lc) (.slice ha hl hc) (.slice ta tl tc) x len _).mono ?_; rintro e w1 ⟨rfl, hb⟩; rw [← HT.out]; have HBR := hide (Below.on HB1.out hb); have HOR := hide (HOP.out.below hb); clear hb)
    go_ret2
    exact ⟨outP_none _ _, HBR.out⟩
  have HC1 := hide c1
  clear c1
  go_enter Tryz.func17, Tryz.ntmps17
  go_wp2_with (go_at_call 15; refine (right_any k (.slice ea el ec) (.slice pa pl pc) (.slice la ll lc) (.slice ha hl hc) (.slice ta tl tc) x len _).mono ?_; rintro e w1 ⟨rfl, hb⟩; rw [HC1.out]; have HBR := hide (Below.on HB1.out hb); have HOR := hide (HOP.out.below hb); clear hb)
  go_loopw [24] (fun i wr => ∃ j : Nat, j ≤ len ∧ i = .int .i64 j ∧ (∀ t, t < j → sizeE (xss[t]?.getD []) = 0) ∧ OpAt wr w.heap.size k (.slice ea el ec) (.slice pa pl pc) (.slice la ll lc) (.slice ha hl hc) (.slice ta tl tc) x ∧ Below w.heap.size w wr) (fun i _ => len - (intOf i).toNat)
  case atStart => exact ⟨0, Nat.zero_le _, rfl, fun t ht => by omega, HOR.out, HBR.out⟩
  case round =>
    obtain ⟨j, hj, rfl, hgood, ho, hB⟩ := hrel
    have HG := hide hgood
    have HO := hide ho
    have HB := hide hB
    clear HBR HOR
    clear hgood ho hB o0 o1 o2 o3 o4 o5 o6
    by_cases hlt : j < len
    · obtain ⟨b, off, rfl, hc⟩ := H.out.at (by omega)
      obtain ⟨X, m, c, hcj0, hlj⟩ := hc j hlt
      have hcj : wr.cell? ⟨b, off + j, none⟩ = some (.slice X m c) := (HB.out.cell (p := ⟨b, off + j, none⟩) (lt_of_cell hcj0)).trans hcj0
      have HLJ := hide hlj
      clear hlj hcj0 hc
      obtain ⟨T, hT⟩ : ∃ T, T = sizeE (xss[j]?.getD []) := ⟨_, rfl⟩
      have HT := hide hT
      by_cases c2 : T = 0
      · have HT0 : Hid (sizeE (xss[j]?.getD []) = 0) := hT.symm.trans c2
        clear hT c2 HT
        go_wp2_with (go_at_call 27; refine (rsize_any _ _ _ (xss[j]?.getD []) _ (HLJ.out.1.below HB.out)).mono ?_; rintro e w' ⟨rfl, hw'⟩; obtain rfl := hw'.symm; rw [HT0.out])
        go_roundw
        case rel =>
          refine ⟨j + 1, by omega, by go_num, fun t ht => ?_, HO.out, HB.out⟩
          by_cases e : t = j
          · rw [e]; exact HT0.out
          · exact HG.out t (by omega)
        case measure => simp [intOf]; omega
      · have q : (T != 0) = true := by simp [c2]
        have hsz : sizesE xss = T := by
          rw [hT]
          exact sizesE_at xss j HG.out (by rw [HN.out]; exact hlt) (by rw [← hT]; exact c2)
        have hp : dimsP k es ps lo hi st xss = ([], T) := by rw [HDP.out, HN.out, if_neg (by rw [HC1.out]; simp), hsz, if_pos c2]
        have HPP := hide hp
        clear hp hsz hT c2
        go_wp2_with (go_at_call 27; refine (rsize_any _ _ _ (xss[j]?.getD []) _ (HLJ.out.1.below HB.out)).mono ?_; rintro e w' ⟨rfl, hw'⟩; obtain rfl := hw'.symm; rw [← HT.out])
        go_ret2
        rw [HPP.out]
        exact ⟨outP_none _ _, HB.out⟩
    · obtain rfl : j = len := by omega
      have hall : sizesE xss = 0 := sizesE_all xss (fun t ht => HG.out t (by rw [HN.out] at ht; exact ht))
      have HZ := hide (sizesE_ok xss hall)
      have HD2 : Hid (dimsP k es ps lo hi st xss = if (shapeP k es ps lo hi st xss).2 ≠ 0 then ([], (shapeP k es ps lo hi st xss).2) else if sizeE (shapeP k es ps lo hi st xss).1 ≠ 0 then ([], sizeE (shapeP k es ps lo hi st xss).1) else ((shapeP k es ps lo hi st xss).1, 0)) := by
        rw [Hid, HDP.out, HN.out, if_neg (by rw [HC1.out]; simp), if_neg (by rw [hall]; simp)]
      have HCS := hide (ruled_any k x _ _ _ es _ _ _ ps _ _ _ lo _ _ _ hi _ _ _ st _ _ cap xss wr (HE.out.below HB.out) (HP.out.below HB.out) (HLO.out.below HB.out) (HHI.out.below HB.out) (HST.out.below HB.out) (H.out.below HB.out) hcap hlen b0 b1 b2 b3 b4 HZ.out HC1.out)
      obtain ⟨⟨L, E⟩, hLE⟩ : ∃ r, r = shapeP k es ps lo hi st xss := ⟨_, rfl⟩
      rw [← hLE] at HCS HD2
      have hd2 := HD2.out
      simp only at hd2
      obtain ⟨o0, o1, o2, o3, o4, o5, o6⟩ := HO.out.cells
      clear hall hLE HDP HD2
      by_cases c3 : E = 0
      case neg =>
        have q : (E != 0) = true := by simp [c3]
        rw [if_pos c3] at hd2
        have HPP := hide hd2
        clear hd2 c3
        go_wp2_with (go_at_call 28; refine HCS.out.mono ?_; rintro e w1 ⟨⟨Z, nz, cz, rfl, hi1, hnc⟩, hb⟩; have HB2 := hide (Below.on HB.out hb); clear hi1 hb)
        go_ret2
        rw [HPP.out]
        exact ⟨outP_none _ _, HB2.out⟩
      subst c3
      rw [if_neg (by simp)] at hd2
      obtain ⟨S, hS⟩ : ∃ S, S = sizeE L := ⟨_, rfl⟩
      have HSS := hide hS
      rw [← hS] at hd2
      clear hS
      by_cases c4 : S = 0
      · subst c4
        rw [if_neg (by simp)] at hd2
        have HPP := hide hd2
        clear hd2
        go_wp2_with (first
          | (go_at_call 28; refine HCS.out.mono ?_; rintro e w1 ⟨⟨Z, nz, cz, rfl, hi1, hnc⟩, hb⟩; have HI1 : Hid (Ints w1 Z nz L) := hi1; have HB2 := hide (Below.on HB.out hb); clear hi1 hb)
          | (go_at_call 27; refine (rsize_any _ _ _ L _ HI1.out).mono ?_; rintro e w' ⟨rfl, hw'⟩; obtain rfl := hw'.symm; rw [← HSS.out]))
        go_ret2
        rw [HPP.out]
        exact ⟨⟨_, _, _, rfl, HI1.out, hnc⟩, HB2.out⟩
      · have q : (S != 0) = true := by simp [c4]
        rw [if_pos c4] at hd2
        have HPP := hide hd2
        clear hd2 c4
        go_wp2_with (first
          | (go_at_call 28; refine HCS.out.mono ?_; rintro e w1 ⟨⟨Z, nz, cz, rfl, hi1, hnc⟩, hb⟩; have HI1 : Hid (Ints w1 Z nz L) := hi1; have HB2 := hide (Below.on HB.out hb); clear hi1 hb)
          | (go_at_call 27; refine (rsize_any _ _ _ L _ HI1.out).mono ?_; rintro e w' ⟨rfl, hw'⟩; obtain rfl := hw'.symm; rw [← HSS.out]))
        go_ret2
        rw [HPP.out]
        exact ⟨outP_none _ _, HB2.out⟩

end Go.Proofs.YteoobeldmicjhaaGreat.V
namespace Go.Proofs.YteoobeldmicjhaaGreat.V
set_option maxRecDepth 20000
open Go.RowKit

/-- A list of arrays, as it lies. -/
def Arrs (w : World) (A : Option Addr) (m : Nat) (v : Nat → ArrV) : Prop :=
  m = 0 ∨ ∃ b off, A = some ⟨b, off, none⟩ ∧ ∀ j, j < m → w.cell? ⟨b, off + j * 2, none⟩ = some (v j).d ∧ w.cell? ⟨b, off + j * 2 + 1, none⟩ = some (v j).x ∧ Lst w (v j).da (v j).dl (v j).dc (v j).ds
theorem Arrs.below {w w' : World} {A : Option Addr} {m : Nat} {v : Nat → ArrV} (h : Arrs w A m v) (hb : Below w.heap.size w w') : Arrs w' A m v := by
  rcases h with h | ⟨b, off, e, h⟩
  · exact .inl h
  · exact .inr ⟨b, off, e, fun j hj => ⟨(hb.cell (p := ⟨b, off + j * 2, none⟩) (lt_of_cell (h j hj).1)).trans (h j hj).1, (hb.cell (p := ⟨b, off + j * 2 + 1, none⟩) (lt_of_cell (h j hj).2.1)).trans (h j hj).2.1, (h j hj).2.2.below hb⟩⟩
/-- The dimensions of the arrays. -/
def dimsOf (m : Nat) (v : Nat → ArrV) : List (List Int) := (List.range m).map fun j => (v j).ds
theorem dimsOf_len (m : Nat) (v : Nat → ArrV) : (dimsOf m v).length = m := by simp [dimsOf]
theorem dimsOf_at (m : Nat) (v : Nat → ArrV) (j : Nat) (h : j < m) : (dimsOf m v)[j]?.getD [] = (v j).ds := by simp [dimsOf, h]
/-- What is wrong with the first array with which something is. -/
def arrsE (v : Nat → ArrV) : Nat → Int
  | 0 => 0
  | m + 1 => if arrsE v m ≠ 0 then arrsE v m else arrE (v m).ds (v m).xl
theorem arrsE_all {v : Nat → ArrV} : ∀ m, (∀ j, j < m → arrE (v j).ds (v j).xl = 0) → arrsE v m = 0
  | 0, _ => rfl
  | m + 1, h => by rw [arrsE, arrsE_all m (fun j hj => h j (by omega)), if_neg (by simp)]; exact h m (by omega)
theorem arrsE_at {v : Nat → ArrV} {j : Nat} (h : ∀ t, t < j → arrE (v t).ds (v t).xl = 0) (hj : arrE (v j).ds (v j).xl ≠ 0) : ∀ m, j < m → arrsE v m = arrE (v j).ds (v j).xl
  | 0, hm => by omega
  | m + 1, hm => by
    rw [arrsE]
    by_cases c : m = j
    · subst c; rw [arrsE_all m h, if_neg (by simp)]
    · rw [arrsE_at h hj m (by omega), if_pos hj]
/-- What Do tells. -/
def doE (k : Int) (es ps lo hi st : List Int) (m : Nat) (v : Nat → ArrV) : Int :=
  if takesE k m ≠ 0 then takesE k m else if arrsE v m ≠ 0 then arrsE v m else (dimsP k es ps lo hi st (dimsOf m v)).2
/-- The row of the arguments' dimensions, as far as it has come. -/
def rowV (v : Nat → ArrV) (j t : Nat) : Value := if t < j then (v t).d else .slice none 0 0
end Go.Proofs.YteoobeldmicjhaaGreat.V
