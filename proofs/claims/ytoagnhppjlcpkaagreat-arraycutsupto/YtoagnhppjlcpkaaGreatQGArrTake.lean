/-
  Contracts: array.takeDims, putDims, reformDims.
-/
import Derived.Test.YtoagnhppjlcpkaaGreatQGArrOthers
namespace Go.Proofs.YtoagnhppjlcpkaaGreat.V
set_option maxRecDepth 20000
open Go.RowKit

theorem lst_drop {w : World} {b off len cap : Nat} {xs : List Int} (h : Lst w (some ⟨b, off, none⟩) len cap xs) (i : Nat) (hi : i ≤ len) : Lst w (some ⟨b, off + i, none⟩) (len - i) (cap - i) (xs.drop i) := by
  obtain ⟨⟨h1, h2, h3, h4⟩, h5, _⟩ := h
  refine ⟨⟨by simp [h1], by omega, fun x hx => h3 x (List.mem_of_mem_drop hx), ?_⟩, by omega, fun e => by cases e⟩
  rcases h4 with h4 | ⟨b', off', e, h4⟩
  · exact .inl (by omega)
  · cases e
    refine .inr ⟨_, _, rfl, fun j hj => ?_⟩
    rw [Nat.add_assoc, h4 (i + j) (by omega), List.getElem?_drop]
theorem lst_take {w : World} {X : Option Addr} {len cap : Nat} {xs : List Int} (h : Lst w X len cap xs) (i : Nat) (hi : i ≤ len) : Lst w X i cap (xs.take i) := by
  obtain ⟨⟨h1, h2, h3, h4⟩, h5, h6⟩ := h
  refine ⟨⟨by simp; omega, by omega, fun x hx => h3 x (List.mem_of_mem_take hx), ?_⟩, by omega, h6⟩
  rcases h4 with h4 | ⟨b', off', e, h4⟩
  · exact .inl (by omega)
  · exact .inr ⟨_, _, e, fun j hj => by rw [List.getElem?_take_of_lt hj]; exact h4 j (by omega)⟩
theorem lst_empty (w : World) (p : Addr) (c : Nat) : Lst w (some p) 0 c [] := ⟨⟨rfl, by omega, by simp, .inl rfl⟩, Nat.zero_le _, fun e => by cases e⟩
theorem lsts_two {w : World} {X Y : Option Addr} {m n c d : Nat} {xs ys : List Int} (h : Lst w X m c xs) (h' : Lst w Y n d ys) (t : TypeId) : Lsts (w.alloc (.cells #[.slice X m c, .slice Y n d] t)) (some ⟨w.heap.size, 0, none⟩) 2 [xs, ys] := by
  have hb : Below w.heap.size w (w.alloc (.cells #[.slice X m c, .slice Y n d] t)) := (Below.refl _ _).alloc (Nat.le_refl _) _
  have hn := World.alloc_heap_new w (.cells #[.slice X m c, .slice Y n d] t)
  refine ⟨rfl, by omega, .inr ⟨_, _, rfl, fun j hj => ?_⟩⟩
  have : j = 0 ∨ j = 1 := by omega
  rcases this with e | e <;> subst e
  · exact ⟨X, m, c, by unfold World.cell?; rw [hn]; rfl, h.below hb⟩
  · exact ⟨Y, n, d, by unfold World.cell?; rw [hn]; rfl, h'.below hb⟩

def takeP (xs ys : List Int) : List Int × Int := if xs.length = 0 then ([], 6) else (ys ++ xs.drop 1, 0)

set_option maxRecDepth 100000 in
set_option maxHeartbeats 1000000 in
theorem takeDims_any (a : Option Addr) (len cap : Nat) (xs : List Int) (a' : Option Addr) (len' cap' : Nat) (ys : List Int) (w : World) (h : Lst w a len cap xs) (h' : Lst w a' len' cap' ys) (h6 : len ≤ 6) (h6' : len' ≤ 6) :
    Calls Tryz.prog 60 #[.slice a len cap, .slice a' len' cap'] w fun e w' => OutP e w' (takeP xs ys) ∧ Below w.heap.size w w' := by
  have H := hide h
  have H' := hide h'
  have hcap := h.2.1
  have HN := hide h.1.1
  clear h h'
  by_cases c : len = 0
  · have hp : takeP xs ys = ([], 6) := by unfold takeP; rw [if_pos (by rw [HN.out]; exact c)]
    rw [hp]
    have q : ((len : Int) == 0) = true := by simp [c]
    clear hp c
    go_enter Tryz.func60, Tryz.ntmps60
    go_wp2
    go_ret2
    exact ⟨outP_none _ _, Below.refl _ _⟩
  · have hp : takeP xs ys = (ys ++ xs.drop 1, 0) := by unfold takeP; rw [if_neg (by rw [HN.out]; exact c)]
    rw [hp]
    have q : ((len : Int) == 0) = false := by simp; omega
    obtain ⟨b, off, rfl, hb, hc⟩ := H.out.1.at (by omega)
    have hl1 : 1 ≤ len := by omega
    clear hp c hc
    have HF : Hid (∀ X n d, Lst w X n d (xs.drop 1) → n ≤ 6 → ∀ w1, w1 = w.alloc (.cells #[.slice a' len' cap', .slice X n d] 22) → Calls Tryz.prog 89 #[.slice (some ⟨w.heap.size, 0, none⟩) 2 2] w1 fun e w' => GivesL w e w' (ys ++ xs.drop 1) ∧ Below w.heap.size w w') := by
      intro X n d hl hn w1 hw1
      subst hw1
      have e : [ys, xs.drop 1].flatten = ys ++ xs.drop 1 := by simp
      refine (chain_any _ _ _ [ys, xs.drop 1] _ (lsts_two H'.out hl _) (by rw [e, List.length_append, H'.out.1.1, hl.1.1]; omega) (by rw [e]; exact bd_append H'.out.1.2.2.1 hl.1.2.2.1)).mono ?_
      rintro e1 w2 ⟨⟨v, rfl, hv⟩, hb2⟩
      rw [e] at hv
      exact ⟨⟨v, rfl, newAt_mono hv (by simp)⟩, Below.on ((Below.refl _ _).alloc (Nat.le_refl _) _) hb2⟩
    by_cases cc : cap = 1
    · subst cc
      have e1 : xs.drop 1 = [] := List.drop_eq_nil_of_le (by rw [HN.out]; omega)
      have HL : Hid (Lst w (some ⟨b, off, none⟩) 0 0 (xs.drop 1)) := by
        rw [e1]; exact lst_empty w _ _
      go_enter Tryz.func60, Tryz.ntmps60
      go_wp2_with (go_at_call 89; refine (HF.out _ _ _ HL.out (by omega) _ (by rfl)).mono ?_; rintro e w1 ⟨⟨v, rfl, hv⟩, hb1⟩; have HV := hide hv; have HB1 := hide hb1; clear hv hb1)
      go_ret2
      exact ⟨outP_new HV.out 0, HB1.out⟩
    · have HL := hide (lst_drop H.out 1 (by omega))
      go_enter Tryz.func60, Tryz.ntmps60
      go_wp2_with (go_at_call 89; refine (HF.out _ _ _ HL.out (by omega) _ (by rfl)).mono ?_; rintro e w1 ⟨⟨v, rfl, hv⟩, hb1⟩; have HV := hide hv; have HB1 := hide hb1; clear hv hb1)
      go_ret2
      exact ⟨outP_new HV.out 0, HB1.out⟩

def putP (es xs ys : List Int) : List Int × Int := if es.length ≠ 1 then ([], 6) else if xs.length < ys.length then ([], 6) else if xs.take ys.length = ys then (es ++ xs.drop ys.length, 0) else ([], 6)

set_option maxRecDepth 100000 in
set_option maxHeartbeats 4000000 in
theorem putDims_any (k : Int) (va vl vh vs : Value) (x : Int) (ea : Option Addr) (el ec : Nat) (es : List Int) (a : Option Addr) (len cap : Nat) (xs : List Int) (a' : Option Addr) (len' cap' : Nat) (ys : List Int) (w : World) (he : Lst w ea el ec es) (h : Lst w a len cap xs) (h' : Lst w a' len' cap' ys) (h6 : len ≤ 6) (h6' : len' ≤ 6) :
    Calls Tryz.prog 61 #[.agg #[.int .i64 k, .slice ea el ec, va, vl, vh, vs, .int .i64 x], .slice a len cap, .slice a' len' cap'] w fun e w' => OutP e w' (putP es xs ys) ∧ Below w.heap.size w w' := by
  have HE := hide he
  have H := hide h
  have H' := hide h'
  have hcap := h.2.1
  have HN := hide h.1.1
  have HN' := hide h'.1.1
  have HNE := hide he.1.1
  clear h h' he
  have HB1 := hide ((Below.refl w.heap.size w).alloc (Nat.le_refl _) (.cells #[.int .i64 k, .slice ea el ec, va, vl, vh, vs, .int .i64 x] 24))
  by_cases c1 : el = 1
  case neg =>
    have hp : putP es xs ys = ([], 6) := by unfold putP; rw [if_pos (by rw [HNE.out]; exact c1)]
    rw [hp]
    have q : ((el : Int) != 1) = true := by simp; omega
    clear hp c1
    go_enter Tryz.func61, Tryz.ntmps61
    go_wp2
    go_ret2
    exact ⟨outP_none _ _, HB1.out⟩
  subst c1
  by_cases c2 : len < len'
  · have hp : putP es xs ys = ([], 6) := by unfold putP; rw [if_neg (by rw [HNE.out]; simp), if_pos (by rw [HN.out, HN'.out]; exact c2)]
    rw [hp]
    clear hp
    go_enter Tryz.func61, Tryz.ntmps61
    go_wp2
    go_ret2
    exact ⟨outP_none _ _, HB1.out⟩
  have HT := hide (lst_take H.out len' (by omega))
  by_cases c3 : xs.take len' = ys
  case neg =>
    have hp : putP es xs ys = ([], 6) := by unfold putP; rw [if_neg (by rw [HNE.out]; simp), if_neg (by rw [HN.out, HN'.out]; exact c2), if_neg (by rw [HN'.out]; exact c3)]
    rw [hp]
    have Q : Hid (decide (xs.take len' = ys) = false) := decide_eq_false c3
    clear hp c3
    go_enter Tryz.func61, Tryz.ntmps61
    go_wp2_with (go_at_call 25; refine (equal_any _ _ _ _ _ _ _ ys _ (HT.out.1.below HB1.out) (H'.out.1.below HB1.out)).mono ?_; rintro e w1 ⟨rfl, n1, hw1⟩; rw [Q.out]; have HB2 := hide (Below.on HB1.out (hw1 ▸ below_drewN _ n1)); clear hw1)
    go_ret2
    exact ⟨outP_none _ _, HB2.out⟩
  have hp : putP es xs ys = (es ++ xs.drop len', 0) := by unfold putP; rw [if_neg (by rw [HNE.out]; simp), if_neg (by rw [HN.out, HN'.out]; exact c2), if_pos (by rw [HN'.out]; exact c3), HN'.out]
  rw [hp]
  have Q : Hid (decide (xs.take len' = ys) = true) := decide_eq_true c3
  clear hp c3
  have HF : Hid (∀ W, Below w.heap.size w W → ∀ X n d, Lst w X n d (xs.drop len') → n ≤ 6 → ∀ w1, w1 = W.alloc (.cells #[.slice ea 1 ec, .slice X n d] 22) → Calls Tryz.prog 89 #[.slice (some ⟨W.heap.size, 0, none⟩) 2 2] w1 fun e w' => GivesL w e w' (es ++ xs.drop len') ∧ Below w.heap.size w w') := by
    intro W hW X n d hl hn w1 hw1
    subst hw1
    have e : [es, xs.drop len'].flatten = es ++ xs.drop len' := by simp
    refine (chain_any _ _ _ [es, xs.drop len'] _ (lsts_two (HE.out.below hW) (hl.below hW) _) (by rw [e, List.length_append, HNE.out, hl.1.1]; omega) (by rw [e]; exact bd_append HE.out.1.2.2.1 hl.1.2.2.1)).mono ?_
    rintro e1 w2 ⟨⟨v, rfl, hv⟩, hb2⟩
    rw [e] at hv
    exact ⟨⟨v, rfl, newAt_mono hv (by have := hW.size; simp; omega)⟩, Below.on (hW.alloc hW.size _) hb2⟩
  cases a with
  | none =>
    obtain rfl : len = 0 := by
      rcases H.out.1.2.2.2 with e | ⟨_, _, e, _⟩
      · exact e
      · cases e
    obtain rfl : cap = 0 := H.out.2.2 rfl
    obtain rfl : len' = 0 := by omega
    have HL : Hid (Lst w none 0 0 (xs.drop 0)) := by rw [Hid, List.drop_zero]; exact H.out
    go_enter Tryz.func61, Tryz.ntmps61
    go_wp2_with (go_at_call 25; refine (equal_any _ _ _ _ _ _ _ ys _ (HT.out.1.below HB1.out) (H'.out.1.below HB1.out)).mono ?_; rintro e w1 ⟨rfl, n1, hw1⟩; rw [Q.out]; have HB2 := hide (Below.on HB1.out (hw1 ▸ below_drewN _ n1)); obtain ⟨o0, o1, o2, o3, o4, o5, o6⟩ := ((OpAt.new w k (.slice ea 1 ec) va vl vh vs x).below (hw1 ▸ below_drewN _ n1)).cells; clear hw1)
    go_region_with (go_at_call 89; refine (HF.out w1.drew HB2.out.drew _ _ _ HL.out (by omega) _ (by rfl)).mono ?_; rintro e w2 ⟨⟨v, rfl, hv⟩, hb1⟩; have HV := hide hv; have HB3 := hide hb1; clear hv hb1)
    all_goals go_wp2
    all_goals go_ret2
    all_goals exact ⟨outP_new HV.out 0, HB3.out⟩
  | some p =>
  by_cases cc : cap = len'
  · obtain rfl := cc.symm
    obtain rfl : len = len' := by omega
    have HL : Hid (Lst w (some p) 0 0 (xs.drop len)) := by
      rw [List.drop_eq_nil_of_le (by rw [HN.out]; exact Nat.le_refl _)]; exact lst_empty w _ _
    go_enter Tryz.func61, Tryz.ntmps61
    go_wp2_with (go_at_call 25; refine (equal_any _ _ _ _ _ _ _ ys _ (HT.out.1.below HB1.out) (H'.out.1.below HB1.out)).mono ?_; rintro e w1 ⟨rfl, n1, hw1⟩; rw [Q.out]; have HB2 := hide (Below.on HB1.out (hw1 ▸ below_drewN _ n1)); obtain ⟨o0, o1, o2, o3, o4, o5, o6⟩ := ((OpAt.new w k (.slice ea 1 ec) va vl vh vs x).below (hw1 ▸ below_drewN _ n1)).cells; clear hw1)
    go_region_with (go_at_call 89; refine (HF.out w1.drew HB2.out.drew _ _ _ HL.out (by omega) _ (by rfl)).mono ?_; rintro e w2 ⟨⟨v, rfl, hv⟩, hb1⟩; have HV := hide hv; have HB3 := hide hb1; clear hv hb1)
    all_goals go_wp2
    all_goals go_ret2
    all_goals exact ⟨outP_new HV.out 0, HB3.out⟩
  · by_cases c0 : len = 0
    · subst c0
      obtain rfl : len' = 0 := by omega
      have HL : Hid (Lst w (some p) 0 cap (xs.drop 0)) := by rw [Hid, List.drop_zero]; exact H.out
      go_enter Tryz.func61, Tryz.ntmps61
      go_wp2_with (go_at_call 25; refine (equal_any _ _ _ _ _ _ _ ys _ (HT.out.1.below HB1.out) (H'.out.1.below HB1.out)).mono ?_; rintro e w1 ⟨rfl, n1, hw1⟩; rw [Q.out]; have HB2 := hide (Below.on HB1.out (hw1 ▸ below_drewN _ n1)); obtain ⟨o0, o1, o2, o3, o4, o5, o6⟩ := ((OpAt.new w k (.slice ea 1 ec) va vl vh vs x).below (hw1 ▸ below_drewN _ n1)).cells; clear hw1)
      go_region_with (go_at_call 89; refine (HF.out w1.drew HB2.out.drew _ _ _ HL.out (by omega) _ (by rfl)).mono ?_; rintro e w2 ⟨⟨v, rfl, hv⟩, hb1⟩; have HV := hide hv; have HB3 := hide hb1; clear hv hb1)
      all_goals go_wp2
      all_goals go_ret2
      all_goals exact ⟨outP_new HV.out 0, HB3.out⟩
    · obtain ⟨b, off, e, hb, hc⟩ := H.out.1.at (by omega)
      cases e
      have HL := hide (lst_drop H.out len' (by omega))
      clear hc
      go_enter Tryz.func61, Tryz.ntmps61
      go_wp2_with (go_at_call 25; refine (equal_any _ _ _ _ _ _ _ ys _ (HT.out.1.below HB1.out) (H'.out.1.below HB1.out)).mono ?_; rintro e w1 ⟨rfl, n1, hw1⟩; rw [Q.out]; have HB2 := hide (Below.on HB1.out (hw1 ▸ below_drewN _ n1)); obtain ⟨o0, o1, o2, o3, o4, o5, o6⟩ := ((OpAt.new w k (.slice ea 1 ec) va vl vh vs x).below (hw1 ▸ below_drewN _ n1)).cells; clear hw1)
      go_region_with (go_at_call 89; refine (HF.out w1.drew HB2.out.drew _ _ _ HL.out (by omega) _ (by rfl)).mono ?_; rintro e w2 ⟨⟨v, rfl, hv⟩, hb1⟩; have HV := hide hv; have HB3 := hide hb1; clear hv hb1)
      all_goals go_wp2
      all_goals go_ret2
      all_goals exact ⟨outP_new HV.out 0, HB3.out⟩
end Go.Proofs.YtoagnhppjlcpkaaGreat.V

/-
  Numbers that are named once, whatever their order; what a Dot's and a Join's dimensions are.
-/
namespace Go.Proofs.YtoagnhppjlcpkaaGreat.V
set_option maxRecDepth 20000
open Go.RowKit

theorem once_iff {xs : List Int} {n : Nat} : Once xs n ↔ (∀ x ∈ xs, 0 ≤ x ∧ x < n) ∧ xs.Nodup := by
  constructor
  · intro h
    refine ⟨fun x hx => ?_, ?_⟩
    · obtain ⟨i, hi, rfl⟩ := List.getElem_of_mem hx
      have := h i hi
      simp [hi] at this
      exact ⟨this.1, this.2.1⟩
    · unfold List.Nodup
      rw [List.pairwise_iff_getElem]
      intro i j hi hj hij
      have := (h j hj).2.2 i hij
      simpa [hi, hj] using this
  · rintro ⟨h1, h2⟩ i hi
    unfold List.Nodup at h2
    rw [List.pairwise_iff_getElem] at h2
    have h3 := h1 xs[i] (List.getElem_mem hi)
    refine ⟨by simpa [hi] using h3.1, by simpa [hi] using h3.2, fun j hj => ?_⟩
    have := h2 j i (by omega) hi hj
    have hj' : j < xs.length := by omega
    simpa [hi, hj'] using this
theorem once_comm {xs ys : List Int} {n : Nat} : Once (xs ++ ys) n ↔ Once (ys ++ xs) n := by
  rw [once_iff, once_iff, (List.perm_append_comm (l₁ := xs) (l₂ := ys)).nodup_iff]
  have : (∀ x ∈ xs ++ ys, 0 ≤ x ∧ x < (n : Int)) ↔ (∀ x ∈ ys ++ xs, 0 ≤ x ∧ x < (n : Int)) := by
    constructor <;> intro h x hx <;> exact h x (by simp only [List.mem_append] at hx ⊢; exact hx.symm)
  rw [this]
theorem nodup_len : ∀ (n : Nat) (xs : List Int), (∀ x ∈ xs, 0 ≤ x ∧ x < (n : Int)) → xs.Nodup → xs.length ≤ n
  | 0, [], _, _ => Nat.le_refl _
  | 0, x :: _, h, _ => by have := h x (by simp); omega
  | n + 1, xs, h, hn => by
    have h1 := List.length_eq_countP_add_countP (fun x => x == (n : Int)) (l := xs)
    have h2 : xs.countP (fun x => x == (n : Int)) ≤ 1 := List.nodup_iff_count.1 hn (n : Int)
    have h3 : (xs.filter (fun x => decide (¬ (x == (n : Int)) = true))).length ≤ n := by
      refine nodup_len n _ (fun x hx => ?_) (hn.filter _)
      rw [List.mem_filter] at hx
      have h4 := h x hx.1
      have h5 : x ≠ (n : Int) := by simpa using hx.2
      omega
    rw [← List.countP_eq_length_filter] at h3
    omega
theorem once_len {xs : List Int} {n : Nat} (h : Once xs n) : xs.length ≤ n := nodup_len n xs (once_iff.1 h).1 (once_iff.1 h).2
theorem freeL_comm (xs ys : List Int) : ∀ n, freeL (xs ++ ys) n = freeL (ys ++ xs) n
  | 0 => rfl
  | n + 1 => by
    have : inB (xs ++ ys) n = inB (ys ++ xs) n := by unfold inB; rw [List.any_append, List.any_append, Bool.or_comm]
    rw [freeL, freeL, freeL_comm xs ys n, this]

def onceB (xs : List Int) (n : Nat) : Bool := xs.all (fun x => decide (0 ≤ x) && decide (x < (n : Int))) && decide xs.Nodup
theorem onceB_iff (xs : List Int) (n : Nat) : onceB xs n = true ↔ Once xs n := by
  rw [once_iff]; simp [onceB]
/-- What a Dot's dimensions are. -/
def dotB (ps st lo hi a b : List Int) : Bool := onceB (lo ++ ps) a.length && (onceB (hi ++ st) b.length && (decide (taken a lo = taken b hi) && decide (taken a ps = taken b st)))
def dotL (ps st lo hi a b : List Int) : List Int := taken a lo ++ taken a (freeL (lo ++ ps) a.length) ++ taken b (freeL (hi ++ st) b.length)
def dotP (ps st lo hi a b : List Int) : List Int × Int := if dotB ps st lo hi a b = true then (dotL ps st lo hi a b, 0) else ([], 6)
/-- What a Join's dimensions are. -/
def joinB (p : Nat) (ds d : List Int) : Bool := decide (d.length = ds.length) && (decide (d.take p = ds.take p) && decide (d.drop (p + 1) = ds.drop (p + 1)))
def joinS (p : Nat) : List (List Int) → Int
  | [] => 0
  | d :: r => d[p]?.getD 0 + joinS p r
def joinAt (ps : List Int) : Int := ps[0]?.getD 0
def joinP (ps : List Int) (xss : List (List Int)) : List Int × Int :=
  if ps.length = 1 ∧ 0 ≤ joinAt ps ∧ joinAt ps < ((xss[0]?.getD []).length : Int) ∧ (xss.drop 1).all (joinB (joinAt ps).toNat (xss[0]?.getD [])) = true then ((xss[0]?.getD []).set (joinAt ps).toNat (joinS (joinAt ps).toNat xss), 0) else ([], 6)
theorem joinS_snoc (p : Nat) (d : List Int) : ∀ xss : List (List Int), joinS p (xss ++ [d]) = joinS p xss + d[p]?.getD 0
  | [] => by simp [joinS]
  | x :: r => by rw [List.cons_append, joinS, joinS, joinS_snoc p d r]; omega
theorem getD_bd {d : List Int} (h : ∀ x ∈ d, 0 ≤ x ∧ x ≤ 4096) (p : Nat) : 0 ≤ d[p]?.getD 0 ∧ d[p]?.getD 0 ≤ 4096 := by
  by_cases e : p < d.length
  · exact h _ (mem_getD d p e)
  · have : d[p]? = none := by simp; omega
    rw [this]; simp
theorem joinS_bd (p : Nat) : ∀ xss : List (List Int), (∀ d ∈ xss, ∀ x ∈ d, 0 ≤ x ∧ x ≤ 4096) → 0 ≤ joinS p xss ∧ joinS p xss ≤ 4096 * (xss.length : Int)
  | [], _ => by simp [joinS]
  | x :: r, h => by
    have h1 := joinS_bd p r (fun d hd => h d (by simp [hd]))
    have h2 := getD_bd (h x (by simp)) p
    rw [joinS, List.length_cons]
    omega
theorem joinAll_iff (f : List Int → Bool) (xss : List (List Int)) : (xss.drop 1).all f = true ↔ ∀ j, j + 1 < xss.length → f (xss[j + 1]?.getD []) = true := by
  rw [List.all_eq_true]
  constructor
  · intro h j hj
    refine h _ ?_
    rw [List.mem_iff_getElem?]
    exact ⟨j, by rw [List.getElem?_drop, Nat.add_comm 1 j]; simp [hj]⟩
  · intro h x hx
    rw [List.mem_iff_getElem?] at hx
    obtain ⟨j, hj⟩ := hx
    rw [List.getElem?_drop, Nat.add_comm 1 j] at hj
    have hl := (List.getElem?_eq_some_iff.1 hj).1
    have := h j hl
    rw [hj] at this
    exact this
theorem take_snocL (xss : List (List Int)) (k : Nat) (h : k < xss.length) : xss.take (k + 1) = xss.take k ++ [xss[k]?.getD []] := by
  rw [List.take_add_one]; simp [h]

theorem lsts_two' {w : World} {X Y : Option Addr} {m n c d B : Nat} {xs ys : List Int} (h : Lst w X m c xs) (h' : Lst w Y n d ys) (t : TypeId) (hB : w.heap.size = B) : Lsts (w.alloc (.cells #[.slice X m c, .slice Y n d] t)) (some ⟨B, 0, none⟩) 2 [xs, ys] := by
  rw [← hB]; exact lsts_two h h' t
theorem lsts_three {w : World} {X Y Z : Option Addr} {m n k c d f B : Nat} {xs ys zs : List Int} (h : Lst w X m c xs) (h' : Lst w Y n d ys) (h'' : Lst w Z k f zs) (t : TypeId) (hB : w.heap.size = B) : Lsts (w.alloc (.cells #[.slice X m c, .slice Y n d, .slice Z k f] t)) (some ⟨B, 0, none⟩) 3 [xs, ys, zs] := by
  rw [← hB]
  have hb : Below w.heap.size w (w.alloc (.cells #[.slice X m c, .slice Y n d, .slice Z k f] t)) := (Below.refl _ _).alloc (Nat.le_refl _) _
  have hn := World.alloc_heap_new w (.cells #[.slice X m c, .slice Y n d, .slice Z k f] t)
  refine ⟨rfl, by omega, .inr ⟨_, _, rfl, fun j hj => ?_⟩⟩
  have : j = 0 ∨ j = 1 ∨ j = 2 := by omega
  rcases this with e | e | e <;> subst e
  · exact ⟨X, m, c, by unfold World.cell?; rw [hn]; rfl, h.below hb⟩
  · exact ⟨Y, n, d, by unfold World.cell?; rw [hn]; rfl, h'.below hb⟩
  · exact ⟨Z, k, f, by unfold World.cell?; rw [hn]; rfl, h''.below hb⟩
end Go.Proofs.YtoagnhppjlcpkaaGreat.V
