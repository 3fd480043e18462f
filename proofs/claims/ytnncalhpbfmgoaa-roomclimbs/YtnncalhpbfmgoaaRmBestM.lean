/-
  The document's Best: the mathematics of picking, and what it keeps in memory.
-/
import Derived.Test.YtnncalhpbfmgoaaRmFam
namespace Go.Proofs.Ytnncalhpbfmgoaa.V
open Go.RowKit
set_option linter.unusedVariables false

/-- The best one among the first k that are not taken. -/
def SelB (f : Nat → Int) (done : Nat → Bool) (k : Nat) (i : Int) : Prop :=
  (i = -1 ∧ ∀ x, x < k → done x = true) ∨ ∃ q : Nat, i = (q : Int) ∧ q < k ∧ done q = false ∧ ∀ x, x < k → done x = false → x ≠ q → f x < f q ∨ (f x = f q ∧ q < x)
theorem SelB.start (f : Nat → Int) (done : Nat → Bool) : SelB f done 0 (-1) := .inl ⟨rfl, fun x hx => by omega⟩
theorem SelB.skip {f : Nat → Int} {done : Nat → Bool} {k : Nat} {i : Int} (h : SelB f done k i) (hd : done k = true) : SelB f done (k + 1) i := by
  rcases h with ⟨e, h⟩ | ⟨q, e, h1, h2, h3⟩
  · refine .inl ⟨e, fun x hx => ?_⟩
    by_cases hxk : x = k
    · rw [hxk]; exact hd
    · exact h x (by omega)
  · refine .inr ⟨q, e, by omega, h2, fun x hx hdx hne => ?_⟩
    by_cases hxk : x = k
    · rw [hxk, hd] at hdx; cases hdx
    · exact h3 x (by omega) hdx hne
theorem SelB.first {f : Nat → Int} {done : Nat → Bool} {k : Nat} (h : SelB f done k (-1)) (hd : done k = false) : SelB f done (k + 1) (k : Int) := by
  rcases h with ⟨e, h⟩ | ⟨q, e, _⟩
  · refine .inr ⟨k, rfl, by omega, hd, fun x hx hdx hne => ?_⟩
    rw [h x (by omega)] at hdx
    cases hdx
  · omega
theorem SelB.more {f : Nat → Int} {done : Nat → Bool} {k q : Nat} (h : SelB f done k (q : Int)) (hd : done k = false) (hl : f q < f k) : SelB f done (k + 1) (k : Int) := by
  rcases h with ⟨e, h⟩ | ⟨q', e, h1, h2, h3⟩
  · omega
  · obtain rfl : q = q' := by omega
    refine .inr ⟨k, rfl, by omega, hd, fun x hx hdx hne => ?_⟩
    by_cases hxq : x = q
    · rw [hxq]; exact .inl hl
    · have := h3 x (by omega) hdx hxq
      omega
theorem SelB.less {f : Nat → Int} {done : Nat → Bool} {k q : Nat} (h : SelB f done k (q : Int)) (hd : done k = false) (hl : ¬ f q < f k) : SelB f done (k + 1) (q : Int) := by
  rcases h with ⟨e, h⟩ | ⟨q', e, h1, h2, h3⟩
  · omega
  · obtain rfl : q = q' := by omega
    refine .inr ⟨q, rfl, by omega, h2, fun x hx hdx hne => ?_⟩
    by_cases hxk : x = k
    · subst hxk
      omega
    · exact h3 x (by omega) hdx hne
/-- The order in which they are picked. -/
structure DOrd (f : Nat → Int) (m : Nat) (d : List Nat) : Prop where
  perm : d.Perm (List.range m)
  srt : d.Pairwise (fun a b => ¬ (f a < f b ∨ (f b = f a ∧ b < a)))
theorem DOrd.len {f : Nat → Int} {m : Nat} {d : List Nat} (h : DOrd f m d) : d.length = m := by rw [h.perm.length_eq]; simp
theorem DOrd.lt {f : Nat → Int} {m : Nat} {d : List Nat} (h : DOrd f m d) {r : Nat} (hr : r < m) : atK d r < m := by
  have := h.perm.mem_iff.1 (atK_mem d r (by rw [h.len]; exact hr))
  simpa using this
theorem dord_of {bl : Nat → Int} {ks l' : List Nat} (h : SrtK bl ks l') : ∃ d, DOrd (fun x => bl (atK ks x)) ks.length d ∧ l' = d.map (atK ks) := by
  obtain ⟨D, h1, h2, h3⟩ := h
  refine ⟨D.map (fun i => i.1), ⟨?_, ?_⟩, ?_⟩
  · have := h1.map (fun i => i.1)
    have e : (List.finRange ks.length).map (fun i => i.1) = List.range ks.length := by
      refine List.ext_getElem (by simp) fun j h1 h2 => ?_
      simp
    rw [e] at this
    exact this
  · rw [List.pairwise_map]
    refine h2.imp fun {a b} hab => ?_
    unfold ltK at hab
    simp only [Bool.or_eq_false_iff, decide_eq_false_iff_not, Bool.and_eq_false_iff] at hab
    omega
  · rw [h3, List.map_map]
    rfl
def doneD (d : List Nat) (r : Nat) : Nat → Bool := fun x => decide (x ∈ d.take r)
theorem doneD_succ {d : List Nat} {r : Nat} (h : r < d.length) (x : Nat) : doneD d (r + 1) x = if x = atK d r then true else doneD d r x := by
  unfold doneD
  rw [List.take_succ_eq_append_getElem h]
  have e : atK d r = d[r] := by simp [atK, h]
  rw [e]
  simp only [List.mem_append, List.mem_singleton]
  by_cases hx : x = d[r]
  · rw [if_pos hx]; simp [hx]
  · rw [if_neg hx]; simp [hx]
theorem sel_end {f : Nat → Int} {m r : Nat} {d : List Nat} {i : Int} (h : DOrd f m d) (hr : r < m) (hs : SelB f (doneD d r) m i) : i = (atK d r : Int) := by
  have hl := h.len
  have hrl : r < d.length := by omega
  have e0 : d = d.take r ++ (atK d r :: d.drop (r + 1)) := by
    have : atK d r = d[r] := by simp [atK, hrl]
    rw [this]
    simp
  have hnd : d.Nodup := h.perm.nodup_iff.2 List.nodup_range
  have hdm : doneD d r (atK d r) = false := by
    unfold doneD
    rw [decide_eq_false_iff_not]
    intro hm
    rw [e0, List.nodup_append] at hnd
    exact hnd.2.2 _ hm _ (by simp) rfl
  rcases hs with ⟨_, hs⟩ | ⟨q, e, q1, q2, q3⟩
  · rw [hs _ (h.lt hr)] at hdm
    cases hdm
  · by_cases hq : atK d r = q
    · rw [e, hq]
    · exfalso
      have h1 := q3 _ (h.lt hr) hdm hq
      have hqd : q ∈ d := h.perm.mem_iff.2 (by simpa using q1)
      unfold doneD at q2
      rw [decide_eq_false_iff_not] at q2
      rw [e0, List.mem_append, List.mem_cons] at hqd
      have hsr := h.srt
      rw [e0, List.pairwise_append, List.pairwise_cons] at hsr
      rcases hqd with hqd | hqd | hqd
      · exact q2 hqd
      · exact hq hqd.symm
      · have := hsr.2.1.1 q hqd
        omega
theorem mostF_take (ws : List Int) (bl : Nat → Int) (l : List Nat) (r : Nat) (h : r < l.length) : mostF ws bl 0 0 (l.take (r + 1)) = max (mostF ws bl 0 0 (l.take r)) (wsum ws (l.take r) + nth ws (atK l r) + bl (atK l r)) := by
  have e : atK l r = l[r] := by simp [atK, h]
  rw [List.take_succ_eq_append_getElem h, mostF_next, e, Int.zero_add]
def tB : Nat → TypeId := fun i => if i = 0 then 27 else 3
/-- What the first loop has gathered. -/
structure BSt (W : World) (B : Nat) (ws : List Int) (bl : Nat → Int) (T : Nat → List Nat) (f : Nat) (ks : List Nat) (v : Nat → Value) (c : Nat → List Value) : Prop where
  fam : Fam W B (3 + ks.length) v tB c
  c0 : c 0 = (List.range ks.length).map fun i => v (3 + i)
  c1 : c 1 = ks.map fun q => .int .i64 (peakN ws bl q)
  c2 : c 2 = ks.map fun q => .int .i64 (nth ws q)
  cl : ∀ i, i < ks.length → c (3 + i) = (climbF T f (atK ks i)).map nv
theorem BSt.start (W : World) (B : Nat) (ws : List Int) (bl : Nat → Int) (T : Nat → List Nat) (f : Nat) : BSt W B ws bl T f [] (fun _ => .slice none 0 0) (fun _ => []) :=
  ⟨⟨fun i hi => World.ownsRow_nil _ _ _ _, fun i j g hi hj e1 e2 => by cases e1⟩, rfl, rfl, rfl, fun i hi => by simp at hi⟩
theorem BSt.below {W W1 : World} {B : Nat} {ws : List Int} {bl : Nat → Int} {T : Nat → List Nat} {f : Nat} {ks : List Nat} {v : Nat → Value} {c : Nat → List Value} (h : BSt W B ws bl T f ks v c) (hb : Below W.heap.size W W1) : BSt W1 B ws bl T f ks v c := ⟨h.fam.below hb, h.c0, h.c1, h.c2, h.cl⟩
/-- A tree more was asked. -/
theorem BSt.add {W W1 : World} {B : Nat} {ws : List Int} {bl : Nat → Int} {T : Nat → List Nat} {f : Nat} {ks : List Nat} {v : Nat → Value} {c : Nat → List Value} {u : Value} {q : Nat} (h : BSt W B ws bl T f ks v c) (hb : Below W.heap.size W W1) (hu : OwnN W1 W.heap.size u (climbF T f q)) (hB : B ≤ W.heap.size) : Fam W1 B (3 + ks.length + 1) (updF v (3 + ks.length) u) tB (updF c (3 + ks.length) ((climbF T f q).map nv)) := by
  have hu2 : W1.ownsRow B 3 1 u ((climbF T f q).map nv).length ((climbF T f q).map nv) := by
    rw [List.length_map]
    refine ⟨hu.1, ?_⟩
    rcases hu.2 with h1 | ⟨g, cap, cur, e1, e2, e3⟩
    · exact .inl h1
    · exact .inr ⟨g, cap, cur, e1, by omega, e3⟩
  have := (h.fam.below hb).add (N := W.heap.size) (fun i g hi e => (own_lt (h.fam.row i hi) e).2) hu2 (fun g e => (hu.at e).1)
  refine this.congr (fun _ _ => rfl) (fun i hi => ?_) (fun _ _ => rfl)
  unfold updF tB
  by_cases e : i = 3 + ks.length
  · rw [if_neg (by omega), if_pos e]
  · rw [if_neg e]
theorem BSt.next {W W4 : World} {B : Nat} {ws : List Int} {bl : Nat → Int} {T : Nat → List Nat} {f : Nat} {ks : List Nat} {v : Nat → Value} {c : Nat → List Value} {u vo vp vw : Value} {q : Nat} (h : BSt W B ws bl T f ks v c)
    (hF : Fam W4 B (3 + ks.length + 1) (updF (updF (updF (updF v (3 + ks.length) u) 0 vo) 1 vp) 2 vw) tB (updF (updF (updF (updF c (3 + ks.length) ((climbF T f q).map nv)) 0 (c 0 ++ [u])) 1 (c 1 ++ [.int .i64 (peakN ws bl q)])) 2 (c 2 ++ [.int .i64 (nth ws q)]))) :
    BSt W4 B ws bl T f (ks ++ [q]) (updF (updF (updF (updF v (3 + ks.length) u) 0 vo) 1 vp) 2 vw) (updF (updF (updF (updF c (3 + ks.length) ((climbF T f q).map nv)) 0 (c 0 ++ [u])) 1 (c 1 ++ [.int .i64 (peakN ws bl q)])) 2 (c 2 ++ [.int .i64 (nth ws q)])) := by
  refine ⟨?_, ?_, ?_, ?_, fun i hi => ?_⟩
  · rw [List.length_append]
    exact hF
  · have e : (updF (updF (updF (updF c (3 + ks.length) ((climbF T f q).map nv)) 0 (c 0 ++ [u])) 1 (c 1 ++ [.int .i64 (peakN ws bl q)])) 2 (c 2 ++ [.int .i64 (nth ws q)])) 0 = c 0 ++ [u] := rfl
    rw [e, h.c0, List.length_append, List.length_singleton, List.range_succ, List.map_append, List.map_singleton]
    congr 1
    · refine List.map_congr_left fun i hi => ?_
      simp at hi
      simp only [updF]
      rw [if_neg (by omega), if_neg (by omega), if_neg (by omega), if_neg (by omega)]
    · simp only [updF]
      rw [if_neg (by omega), if_neg (by omega), if_neg (by omega)]
      simp
  · show c 1 ++ _ = _
    rw [h.c1, List.map_append]
    rfl
  · show c 2 ++ _ = _
    rw [h.c2, List.map_append]
    rfl
  · simp only [updF]
    rw [if_neg (by omega), if_neg (by omega), if_neg (by omega)]
    by_cases e : i = ks.length
    · subst e
      rw [if_pos rfl]
      simp [atK]
    · have hi2 : i < ks.length := by simp at hi; omega
      rw [if_neg (by omega), h.cl i hi2]
      have : atK (ks ++ [q]) i = atK ks i := by unfold atK; rw [List.getElem?_append_left hi2]
      rw [this]
/-- What is read of it. -/
structure BRd (W : World) (N : Nat) (ws : List Int) (bl : Nat → Int) (T : Nat → List Nat) (f : Nat) (ks : List Nat) (go gp gw : Nat) : Prop where
  ord : ∀ i, i < ks.length → ∃ g cp, W.cell? ⟨go, i, none⟩ = some (.slice (some ⟨g, 0, none⟩) (climbF T f (atK ks i)).length cp) ∧ g < N ∧ ∀ j, j < (climbF T f (atK ks i)).length → W.cell? ⟨g, j, none⟩ = some (nv (atK (climbF T f (atK ks i)) j))
  pks : ∀ i, i < ks.length → W.cell? ⟨gp, i, none⟩ = some (.int .i64 (peakN ws bl (atK ks i)))
  own : ∀ i, i < ks.length → W.cell? ⟨gw, i, none⟩ = some (.int .i64 (nth ws (atK ks i)))
theorem climb_ne (T : Nat → List Nat) (f k : Nat) : 0 < (climbF T f k).length := by
  cases f with
  | zero => simp [climbF]
  | succ f => simp [climbF]
theorem BSt.read {W : World} {B : Nat} {ws : List Int} {bl : Nat → Int} {T : Nat → List Nat} {f : Nat} {ks : List Nat} {v : Nat → Value} {c : Nat → List Value} (h : BSt W B ws bl T f ks v c) (h0 : 0 < ks.length) :
    ∃ go co gp cp gw cw, v 0 = .slice (some ⟨go, 0, none⟩) ks.length co ∧ v 1 = .slice (some ⟨gp, 0, none⟩) ks.length cp ∧ v 2 = .slice (some ⟨gw, 0, none⟩) ks.length cw ∧ BRd W W.heap.size ws bl T f ks go gp gw := by
  have l0 : (c 0).length = ks.length := by rw [h.c0]; simp
  have l1 : (c 1).length = ks.length := by rw [h.c1]; simp
  have l2 : (c 2).length = ks.length := by rw [h.c2]; simp
  obtain ⟨go, co, a1, a2, a3, a4, a5⟩ := h.fam.cell (k := 0) (j := 0) (by omega) (by omega)
  obtain ⟨gp, cp, b1, b2, b3, b4, b5⟩ := h.fam.cell (k := 1) (j := 0) (by omega) (by omega)
  obtain ⟨gw, cw, d1, d2, d3, d4, d5⟩ := h.fam.cell (k := 2) (j := 0) (by omega) (by omega)
  rw [l0] at a1 a5
  rw [l1] at b1 b5
  rw [l2] at d1 d5
  refine ⟨go, co, gp, cp, gw, cw, a1, b1, d1, fun i hi => ?_, fun i hi => ?_, fun i hi => ?_⟩
  · have hc := h.cl i hi
    have hne := climb_ne T f (atK ks i)
    obtain ⟨g, cq, e1, e2, e3, e4, e5⟩ := h.fam.cell (k := 3 + i) (j := 0) (by omega) (by rw [hc]; simpa using hne)
    rw [hc, List.length_map] at e1
    refine ⟨g, cq, ?_, e3, fun j hj => ?_⟩
    · rw [a5 i hi, h.c0, ← e1]
      simp [hi]
    · rw [e5 j (by rw [hc]; simpa using hj), hc]
      obtain ⟨X, hX⟩ : ∃ X, X = climbF T f (atK ks i) := ⟨_, rfl⟩
      rw [← hX] at hj ⊢
      simp [atK, hj]
  · rw [b5 i hi, h.c1]
    simp [atK, hi]
  · rw [d5 i hi, h.c2]
    simp [atK, hi]
theorem BRd.below {W W1 : World} {N : Nat} {ws : List Int} {bl : Nat → Int} {T : Nat → List Nat} {f : Nat} {ks : List Nat} {go gp gw : Nat} (h : BRd W N ws bl T f ks go gp gw) (hb : Below W.heap.size W W1) : BRd W1 N ws bl T f ks go gp gw := by
  refine ⟨fun i hi => ?_, fun i hi => ?_, fun i hi => ?_⟩
  · obtain ⟨g, cp, e1, e2, e3⟩ := h.ord i hi
    exact ⟨g, cp, (hb.cell (p := ⟨go, i, none⟩) (lt_of_cell e1)).trans e1, e2, fun j hj => (hb.cell (p := ⟨g, j, none⟩) (lt_of_cell (e3 j hj))).trans (e3 j hj)⟩
  · exact (hb.cell (p := ⟨gp, i, none⟩) (lt_of_cell (h.pks i hi))).trans (h.pks i hi)
  · exact (hb.cell (p := ⟨gw, i, none⟩) (lt_of_cell (h.own i hi))).trans (h.own i hi)
/-- append(row, numbers), at the operation. -/
theorem append_nvs {w : World} {ops : Array Oper} {rest : List Oper} {op : Oper} {a : Act} {Q : Exit → Act → World → Prop} (hgd : op.guard = none) (s x : Operand)
    (ho : op.op = .call { callee := .builtin .append, args := #[s, x], argTypes := #[27, 27] }) (B : Nat) (v : Value) (l : List Nat) (hs : a.eval s = v) (hS : OwnN w B v l) (g cp : Nat) (l2 : List Nat)
    (hx : a.eval x = .slice (some ⟨g, 0, none⟩) l2.length cp) (hc : ∀ j, j < l2.length → w.cell? ⟨g, j, none⟩ = some (nv (atK l2 j))) (hl : l.length + l2.length ≤ 65536) (hB : B ≤ w.heap.size)
    (h : ∀ v' w', OwnN w' B v' (l ++ l2) → w.grownBy w' v.ownBlock → wpList Try.prog ops Q rest (a.put op.dst v') w') :
    wpList Try.prog ops Q (op :: rest) a w := by
  obtain ⟨i0, hi, hz0, hz1, hz2⟩ := info_parts info_int
  refine wpList_append_own _ hgd s x 27 ho B 3 i0 (.int .i64 0) 1 8 Try.underlying27 hi hz0 hz1 hz2 rfl (by decide) v l.length (l.map nv) hs hS ⟨g, 0, none⟩ l2.length cp (l2.map nv) hx (by simp) ?_ ?_ (by unfold maxLen; omega) (by omega) hB (fun v' w' k1 k2 _ => ?_)
  · intro j u hj
    have hjl : j < l2.length := by have := (List.getElem?_eq_some_iff.1 hj).1; simpa using this
    rw [Go.WideShapes.add_plain, Nat.zero_add, hc j hjl, ← hj]
    simp [atK, hjl]
  · intro u hu
    simp at hu
    obtain ⟨y, _, rfl⟩ := hu
    rfl
  · refine h v' w' ?_ k2
    unfold OwnN
    rw [List.length_append, List.map_append]
    exact k1
end Go.Proofs.Ytnncalhpbfmgoaa.V
