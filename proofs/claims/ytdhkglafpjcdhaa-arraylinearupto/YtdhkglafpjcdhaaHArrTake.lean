/-
  Contracts: array.takeDims, putDims, reformDims.
-/
import Derived.Test.YtdhkglafpjcdhaaGArrOthers
namespace Go.Proofs.Ytdhkglafpjcdhaa.V
open Go.RowKit

theorem lst_drop {w : World} {b off len cap : Nat} {xs : List Int} (h : Lst w (some ⟨b, off, none⟩) len cap xs) (i : Nat) (hi : i ≤ len) : Lst w (some ⟨b, off + i, none⟩) (len - i) (cap - i) (xs.drop i) := by
  obtain ⟨⟨h1, h2, h3, h4⟩, h5, _⟩ := h
  refine ⟨⟨by simp [h1], by omega, fun x hx => h3 x (List.mem_of_mem_drop hx), ?_⟩, by omega, fun e => by cases e⟩
  rcases h4 with h4 | ⟨b', off', e, h4⟩
  · exact .inl (by omega)
  · cases e
    refine .inr ⟨_, _, rfl, fun j hj => ?_⟩
    rw [Nat.add_assoc, h4 (i + j) (by omega), List.getElem?_drop]
theorem lst_take {w : World} {X : Option Addr} {len cap : Nat} {xs : List Int} (h : Lst w X len cap xs) (i : Nat) (hi : i ≤ len) : Lst w X i cap (xs.take i) := by
  obtain ⟨⟨h1, h2, h3, h4⟩, h5, h6⟩ := h
  refine ⟨⟨by simp; omega, by omega, fun x hx => h3 x (List.mem_of_mem_take hx), ?_⟩, by omega, h6⟩
  rcases h4 with h4 | ⟨b', off', e, h4⟩
  · exact .inl (by omega)
  · exact .inr ⟨_, _, e, fun j hj => by rw [List.getElem?_take_of_lt hj]; exact h4 j (by omega)⟩
theorem lst_empty (w : World) (p : Addr) (c : Nat) : Lst w (some p) 0 c [] := ⟨⟨rfl, by omega, by simp, .inl rfl⟩, Nat.zero_le _, fun e => by cases e⟩
theorem lsts_two {w : World} {X Y : Option Addr} {m n c d : Nat} {xs ys : List Int} (h : Lst w X m c xs) (h' : Lst w Y n d ys) (t : TypeId) : Lsts (w.alloc (.cells #[.slice X m c, .slice Y n d] t)) (some ⟨w.heap.size, 0, none⟩) 2 [xs, ys] := by
  have hb : Below w.heap.size w (w.alloc (.cells #[.slice X m c, .slice Y n d] t)) := (Below.refl _ _).alloc (Nat.le_refl _) _
  have hn := World.alloc_heap_new w (.cells #[.slice X m c, .slice Y n d] t)
  refine ⟨rfl, by omega, .inr ⟨_, _, rfl, fun j hj => ?_⟩⟩
  have : j = 0 ∨ j = 1 := by omega
  rcases this with e | e <;> subst e
  · exact ⟨X, m, c, by unfold World.cell?; rw [hn]; rfl, h.below hb⟩
  · exact ⟨Y, n, d, by unfold World.cell?; rw [hn]; rfl, h'.below hb⟩

def takeP (xs ys : List Int) : List Int × Int := if xs.length = 0 then ([], 6) else (ys ++ xs.drop 1, 0)

set_option maxRecDepth 100000 in
set_option maxHeartbeats 1000000 in
theorem takeDims_any (a : Option Addr) (len cap : Nat) (xs : List Int) (a' : Option Addr) (len' cap' : Nat) (ys : List Int) (w : World) (h : Lst w a len cap xs) (h' : Lst w a' len' cap' ys) (h6 : len ≤ 6) (h6' : len' ≤ 6) :
    Calls Try.prog 41 #[.slice a len cap, .slice a' len' cap'] w fun e w' => OutP e w' (takeP xs ys) ∧ Below w.heap.size w w' := by
  have H := hide h
  have H' := hide h'
  have hcap := h.2.1
  have HN := hide h.1.1
  clear h h'
  by_cases c : len = 0
  · have hp : takeP xs ys = ([], 6) := by unfold takeP; rw [if_pos (by rw [HN.out]; exact c)]
    rw [hp]
    have q : ((len : Int) == 0) = true := by simp [c]
    clear hp c
    go_enter Try.func41, Try.ntmps41
    go_wp2
    go_ret2
    exact ⟨outP_none _ _, Below.refl _ _⟩
  · have hp : takeP xs ys = (ys ++ xs.drop 1, 0) := by unfold takeP; rw [if_neg (by rw [HN.out]; exact c)]
    rw [hp]
    have q : ((len : Int) == 0) = false := by simp; omega
    obtain ⟨b, off, rfl, hb, hc⟩ := H.out.1.at (by omega)
    have hl1 : 1 ≤ len := by omega
    clear hp c hc
    have HF : Hid (∀ X n d, Lst w X n d (xs.drop 1) → n ≤ 6 → ∀ w1, w1 = w.alloc (.cells #[.slice a' len' cap', .slice X n d] 22) → Calls Try.prog 64 #[.slice (some ⟨w.heap.size, 0, none⟩) 2 2] w1 fun e w' => GivesL w e w' (ys ++ xs.drop 1) ∧ Below w.heap.size w w') := by
      intro X n d hl hn w1 hw1
      subst hw1
      have e : [ys, xs.drop 1].flatten = ys ++ xs.drop 1 := by simp
      refine (chain_any _ _ _ [ys, xs.drop 1] _ (lsts_two H'.out hl _) (by rw [e, List.length_append, H'.out.1.1, hl.1.1]; omega) (by rw [e]; exact bd_append H'.out.1.2.2.1 hl.1.2.2.1)).mono ?_
      rintro e1 w2 ⟨⟨v, rfl, hv⟩, hb2⟩
      rw [e] at hv
      exact ⟨⟨v, rfl, newAt_mono hv (by simp)⟩, Below.on ((Below.refl _ _).alloc (Nat.le_refl _) _) hb2⟩
    by_cases cc : cap = 1
    · subst cc
      have e1 : xs.drop 1 = [] := List.drop_eq_nil_of_le (by rw [HN.out]; omega)
      have HL : Hid (Lst w (some ⟨b, off, none⟩) 0 0 (xs.drop 1)) := by
        rw [e1]; exact lst_empty w _ _
      go_enter Try.func41, Try.ntmps41
      go_wp2_with (go_at_call 64; refine (HF.out _ _ _ HL.out (by omega) _ (by rfl)).mono ?_; rintro e w1 ⟨⟨v, rfl, hv⟩, hb1⟩; have HV := hide hv; have HB1 := hide hb1; clear hv hb1)
      go_ret2
      exact ⟨outP_new HV.out 0, HB1.out⟩
    · have HL := hide (lst_drop H.out 1 (by omega))
      go_enter Try.func41, Try.ntmps41
      go_wp2_with (go_at_call 64; refine (HF.out _ _ _ HL.out (by omega) _ (by rfl)).mono ?_; rintro e w1 ⟨⟨v, rfl, hv⟩, hb1⟩; have HV := hide hv; have HB1 := hide hb1; clear hv hb1)
      go_ret2
      exact ⟨outP_new HV.out 0, HB1.out⟩

def putP (es xs ys : List Int) : List Int × Int := if es.length ≠ 1 then ([], 6) else if xs.length < ys.length then ([], 6) else if xs.take ys.length = ys then (es ++ xs.drop ys.length, 0) else ([], 6)

set_option maxRecDepth 100000 in
set_option maxHeartbeats 4000000 in
theorem putDims_any (k : Int) (va vl vh vs : Value) (x : Int) (ea : Option Addr) (el ec : Nat) (es : List Int) (a : Option Addr) (len cap : Nat) (xs : List Int) (a' : Option Addr) (len' cap' : Nat) (ys : List Int) (w : World) (he : Lst w ea el ec es) (h : Lst w a len cap xs) (h' : Lst w a' len' cap' ys) (h6 : len ≤ 6) (h6' : len' ≤ 6) :
    Calls Try.prog 42 #[.agg #[.int .i64 k, .slice ea el ec, va, vl, vh, vs, .int .i64 x], .slice a len cap, .slice a' len' cap'] w fun e w' => OutP e w' (putP es xs ys) ∧ Below w.heap.size w w' := by
  have HE := hide he
  have H := hide h
  have H' := hide h'
  have hcap := h.2.1
  have HN := hide h.1.1
  have HN' := hide h'.1.1
  have HNE := hide he.1.1
  clear h h' he
  have HB1 := hide ((Below.refl w.heap.size w).alloc (Nat.le_refl _) (.cells #[.int .i64 k, .slice ea el ec, va, vl, vh, vs, .int .i64 x] 33))
  by_cases c1 : el = 1
  case neg =>
    have hp : putP es xs ys = ([], 6) := by unfold putP; rw [if_pos (by rw [HNE.out]; exact c1)]
    rw [hp]
    have q : ((el : Int) != 1) = true := by simp; omega
    clear hp c1
    go_enter Try.func42, Try.ntmps42
    go_wp2
    go_ret2
    exact ⟨outP_none _ _, HB1.out⟩
  subst c1
  by_cases c2 : len < len'
  · have hp : putP es xs ys = ([], 6) := by unfold putP; rw [if_neg (by rw [HNE.out]; simp), if_pos (by rw [HN.out, HN'.out]; exact c2)]
    rw [hp]
    clear hp
    go_enter Try.func42, Try.ntmps42
    go_wp2
    go_ret2
    exact ⟨outP_none _ _, HB1.out⟩
  have HT := hide (lst_take H.out len' (by omega))
  by_cases c3 : xs.take len' = ys
  case neg =>
    have hp : putP es xs ys = ([], 6) := by unfold putP; rw [if_neg (by rw [HNE.out]; simp), if_neg (by rw [HN.out, HN'.out]; exact c2), if_neg (by rw [HN'.out]; exact c3)]
    rw [hp]
    have Q : Hid (decide (xs.take len' = ys) = false) := decide_eq_false c3
    clear hp c3
    go_enter Try.func42, Try.ntmps42
    go_wp2_with (go_at_call 65; refine (equal_any _ _ _ _ _ _ _ ys _ (HT.out.1.below HB1.out) (H'.out.1.below HB1.out)).mono ?_; rintro e w1 ⟨rfl, n1, hw1⟩; rw [Q.out]; have HB2 := hide (Below.on HB1.out (hw1 ▸ below_drewN _ n1)); clear hw1)
    go_ret2
    exact ⟨outP_none _ _, HB2.out⟩
  have hp : putP es xs ys = (es ++ xs.drop len', 0) := by unfold putP; rw [if_neg (by rw [HNE.out]; simp), if_neg (by rw [HN.out, HN'.out]; exact c2), if_pos (by rw [HN'.out]; exact c3), HN'.out]
  rw [hp]
  have Q : Hid (decide (xs.take len' = ys) = true) := decide_eq_true c3
  clear hp c3
  have HF : Hid (∀ W, Below w.heap.size w W → ∀ X n d, Lst w X n d (xs.drop len') → n ≤ 6 → ∀ w1, w1 = W.alloc (.cells #[.slice ea 1 ec, .slice X n d] 22) → Calls Try.prog 64 #[.slice (some ⟨W.heap.size, 0, none⟩) 2 2] w1 fun e w' => GivesL w e w' (es ++ xs.drop len') ∧ Below w.heap.size w w') := by
    intro W hW X n d hl hn w1 hw1
    subst hw1
    have e : [es, xs.drop len'].flatten = es ++ xs.drop len' := by simp
    refine (chain_any _ _ _ [es, xs.drop len'] _ (lsts_two (HE.out.below hW) (hl.below hW) _) (by rw [e, List.length_append, HNE.out, hl.1.1]; omega) (by rw [e]; exact bd_append HE.out.1.2.2.1 hl.1.2.2.1)).mono ?_
    rintro e1 w2 ⟨⟨v, rfl, hv⟩, hb2⟩
    rw [e] at hv
    exact ⟨⟨v, rfl, newAt_mono hv (by have := hW.size; simp; omega)⟩, Below.on (hW.alloc hW.size _) hb2⟩
  cases a with
  | none =>
    obtain rfl : len = 0 := by
      rcases H.out.1.2.2.2 with e | ⟨_, _, e, _⟩
      · exact e
      · cases e
    obtain rfl : cap = 0 := H.out.2.2 rfl
    obtain rfl : len' = 0 := by omega
    have HL : Hid (Lst w none 0 0 (xs.drop 0)) := by rw [Hid, List.drop_zero]; exact H.out
    go_enter Try.func42, Try.ntmps42
    go_wp2_with (go_at_call 65; refine (equal_any _ _ _ _ _ _ _ ys _ (HT.out.1.below HB1.out) (H'.out.1.below HB1.out)).mono ?_; rintro e w1 ⟨rfl, n1, hw1⟩; rw [Q.out]; have HB2 := hide (Below.on HB1.out (hw1 ▸ below_drewN _ n1)); obtain ⟨o0, o1, o2, o3, o4, o5, o6⟩ := ((OpAt.new w k (.slice ea 1 ec) va vl vh vs x).below (hw1 ▸ below_drewN _ n1)).cells; clear hw1)
    go_region_with (go_at_call 64; refine (HF.out w1.drew HB2.out.drew _ _ _ HL.out (by omega) _ (by rfl)).mono ?_; rintro e w2 ⟨⟨v, rfl, hv⟩, hb1⟩; have HV := hide hv; have HB3 := hide hb1; clear hv hb1)
    all_goals go_wp2
    all_goals go_ret2
    all_goals exact ⟨outP_new HV.out 0, HB3.out⟩
  | some p =>
  by_cases cc : cap = len'
  · obtain rfl := cc.symm
    obtain rfl : len = len' := by omega
    have HL : Hid (Lst w (some p) 0 0 (xs.drop len)) := by
      rw [List.drop_eq_nil_of_le (by rw [HN.out]; exact Nat.le_refl _)]; exact lst_empty w _ _
    go_enter Try.func42, Try.ntmps42
    go_wp2_with (go_at_call 65; refine (equal_any _ _ _ _ _ _ _ ys _ (HT.out.1.below HB1.out) (H'.out.1.below HB1.out)).mono ?_; rintro e w1 ⟨rfl, n1, hw1⟩; rw [Q.out]; have HB2 := hide (Below.on HB1.out (hw1 ▸ below_drewN _ n1)); obtain ⟨o0, o1, o2, o3, o4, o5, o6⟩ := ((OpAt.new w k (.slice ea 1 ec) va vl vh vs x).below (hw1 ▸ below_drewN _ n1)).cells; clear hw1)
    go_region_with (go_at_call 64; refine (HF.out w1.drew HB2.out.drew _ _ _ HL.out (by omega) _ (by rfl)).mono ?_; rintro e w2 ⟨⟨v, rfl, hv⟩, hb1⟩; have HV := hide hv; have HB3 := hide hb1; clear hv hb1)
    all_goals go_wp2
    all_goals go_ret2
    all_goals exact ⟨outP_new HV.out 0, HB3.out⟩
  · by_cases c0 : len = 0
    · subst c0
      obtain rfl : len' = 0 := by omega
      have HL : Hid (Lst w (some p) 0 cap (xs.drop 0)) := by rw [Hid, List.drop_zero]; exact H.out
      go_enter Try.func42, Try.ntmps42
      go_wp2_with (go_at_call 65; refine (equal_any _ _ _ _ _ _ _ ys _ (HT.out.1.below HB1.out) (H'.out.1.below HB1.out)).mono ?_; rintro e w1 ⟨rfl, n1, hw1⟩; rw [Q.out]; have HB2 := hide (Below.on HB1.out (hw1 ▸ below_drewN _ n1)); obtain ⟨o0, o1, o2, o3, o4, o5, o6⟩ := ((OpAt.new w k (.slice ea 1 ec) va vl vh vs x).below (hw1 ▸ below_drewN _ n1)).cells; clear hw1)
      go_region_with (go_at_call 64; refine (HF.out w1.drew HB2.out.drew _ _ _ HL.out (by omega) _ (by rfl)).mono ?_; rintro e w2 ⟨⟨v, rfl, hv⟩, hb1⟩; have HV := hide hv; have HB3 := hide hb1; clear hv hb1)
      all_goals go_wp2
      all_goals go_ret2
      all_goals exact ⟨outP_new HV.out 0, HB3.out⟩
    · obtain ⟨b, off, e, hb, hc⟩ := H.out.1.at (by omega)
      cases e
      have HL := hide (lst_drop H.out len' (by omega))
      clear hc
      go_enter Try.func42, Try.ntmps42
      go_wp2_with (go_at_call 65; refine (equal_any _ _ _ _ _ _ _ ys _ (HT.out.1.below HB1.out) (H'.out.1.below HB1.out)).mono ?_; rintro e w1 ⟨rfl, n1, hw1⟩; rw [Q.out]; have HB2 := hide (Below.on HB1.out (hw1 ▸ below_drewN _ n1)); obtain ⟨o0, o1, o2, o3, o4, o5, o6⟩ := ((OpAt.new w k (.slice ea 1 ec) va vl vh vs x).below (hw1 ▸ below_drewN _ n1)).cells; clear hw1)
      go_region_with (go_at_call 64; refine (HF.out w1.drew HB2.out.drew _ _ _ HL.out (by omega) _ (by rfl)).mono ?_; rintro e w2 ⟨⟨v, rfl, hv⟩, hb1⟩; have HV := hide hv; have HB3 := hide hb1; clear hv hb1)
      all_goals go_wp2
      all_goals go_ret2
      all_goals exact ⟨outP_new HV.out 0, HB3.out⟩
end Go.Proofs.Ytdhkglafpjcdhaa.V
