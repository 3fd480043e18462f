/-
  Contracts: adjointref9.Down, the loop of a box's number.
-/
import Derived.Test.YtmefgejggpimeaaPtLists
import Derived.Test.YtmefgejggpimeaaFresh
import Derived.Test.YtmefgejggpimeaaPtLoopMath
namespace Go.Proofs.Ytmefgejggpimeaa.V
open Go.RowKit
set_option linter.unusedVariables false

theorem down_math (n d : Int) (hd : 1 ≤ d) : (if n.tmod d < 0 then n.tdiv d - 1 else n.tdiv d) = n / d := by
  have hs : d.sign = 1 := Int.sign_eq_one_of_pos (by omega)
  have hn : ((d.natAbs : Nat) : Int) = d := by omega
  have h1 := Int.emod_nonneg n (show d ≠ 0 by omega)
  have h2 := Int.emod_lt_of_pos n (show 0 < d by omega)
  rw [Int.tmod_eq_emod, Int.tdiv_eq_ediv, hs]
  by_cases h : 0 ≤ n ∨ d ∣ n
  · simp only [if_pos h]; rw [if_neg (by omega)]; omega
  · simp only [if_neg h, hn]; rw [if_pos (by omega)]; omega
set_option maxHeartbeats 1000000 in
theorem lpDown_any (n d : Int) (w : World) (hd : 1 ≤ d) (hn : -17592186044416 ≤ n ∧ n ≤ 17592186044416) (hd2 : d ≤ 1048576) :
    Calls Try.prog 38 #[.int .i64 n, .int .i64 d] w fun e w' => e = .returned (.int .i64 (n / d)) ∧ Below w.heap.size w w' := by
  have HM := hide (down_math n d hd)
  have q1 : -17592186044416 ≤ n.tdiv d ∧ n.tdiv d ≤ 17592186044416 := by
    have h1 : (n.tdiv d).natAbs ≤ n.natAbs := by rw [Int.natAbs_tdiv]; exact Nat.div_le_self _ _
    omega
  have q2 : -1048576 ≤ n.tmod d ∧ n.tmod d ≤ 1048576 := by
    have h1 : (n.tmod d).natAbs < d.natAbs := by rw [Int.natAbs_tmod]; exact Nat.mod_lt _ (by omega)
    omega
  have e1 : IntKind.i64.wrap (n.tdiv d) = n.tdiv d := wrap_in _ (by omega) (by omega)
  have e2 : IntKind.i64.wrap (n.tmod d) = n.tmod d := wrap_in _ (by omega) (by omega)
  obtain ⟨q, hq⟩ : ∃ q, n.tdiv d = q := ⟨_, rfl⟩
  obtain ⟨r, hr⟩ : ∃ r, n.tmod d = r := ⟨_, rfl⟩
  rw [hq, hr] at HM
  rw [hq] at q1 e1
  rw [hr] at q2 e2
  have d0 : d ≠ 0 := by omega
  have hM := HM.out
  by_cases c : r < 0
  · rw [if_pos c] at hM
    have HM2 := hide hM
    clear hM
    go_enter Try.func38, Try.ntmps38
    go_wp2
    go_ret
    exact ⟨congrArg (fun x => Ending.returned (Value.int .i64 x)) HM2.out, Below.refl _ _⟩
  · rw [if_neg c] at hM
    have HM2 := hide hM
    clear hM
    go_enter Try.func38, Try.ntmps38
    go_wp2
    go_ret
    exact ⟨congrArg (fun x => Ending.returned (Value.int .i64 x)) HM2.out, Below.refl _ _⟩

/-- The cells of a row of bounds. -/
def VB (w : World) (vs : List Value) (bs : List LpB) : Prop := vs.length = bs.length * 3 ∧ ∀ i, i < bs.length → ∃ a l c, vs[i * 3]? = some (.slice a l c) ∧ vs[i * 3 + 1]? = some (.int .i64 (bs[i]?.getD ⟨[], 0, 1⟩).K) ∧ vs[i * 3 + 2]? = some (.int .i64 (bs[i]?.getD ⟨[], 0, 1⟩).D) ∧ Lst w a l c (bs[i]?.getD ⟨[], 0, 1⟩).cs ∧ Flush a
theorem VB.below {w w' : World} {vs : List Value} {bs : List LpB} (h : VB w vs bs) (hb : Below w.heap.size w w') : VB w' vs bs := ⟨h.1, fun i hi => by obtain ⟨a, l, c, h1, h2, h3, h4, h5⟩ := h.2 i hi; exact ⟨a, l, c, h1, h2, h3, h4.below hb, h5⟩⟩
theorem own_below_any {w w' : World} {B n sz : Nat} {t : TypeId} {v : Value} {vs : List Value} (h : w.ownsRow B t sz v n vs) (hb : Below w.heap.size w w') : w'.ownsRow B t sz v n vs := by
  refine ⟨h.1, ?_⟩
  rcases h.2 with h2 | ⟨g, cap, cur, h1, h2, h3, h4⟩
  · exact .inl h2
  · exact .inr ⟨g, cap, cur, h1, h2, (hb.block g (Array.getElem?_eq_some_iff.1 h3).1).trans h3, h4⟩
/-- A row of bounds of the call's own. -/
def Side (w : World) (B : Nat) (v : Value) (bs : List LpB) : Prop := ∃ vs, w.ownsRow B 65 3 v bs.length vs ∧ VB w vs bs ∧ bs ≠ []
theorem Side.below {w w' : World} {B : Nat} {v : Value} {bs : List LpB} (h : Side w B v bs) (hb : Below w.heap.size w w') : Side w' B v bs := by
  obtain ⟨vs, h1, h2, h3⟩ := h
  exact ⟨vs, own_below_any h1 hb, h2.below hb, h3⟩
theorem row_zeros (W : World) (k : Nat) : RowI (W.alloc (.cells (madeCells #[.int .i64 0] k) 3)) W.heap.size k (List.replicate k 0) := by
  have h := World.rowIs_made W (.int .i64 0) k 3
  have e : (fun _ : Nat => Value.int .i64 0) = fun i => .int .i64 ((List.replicate k (0 : Int))[i]?.getD 0) := by
    funext i
    by_cases hi : i < k
    · simp [hi]
    · simp [hi]
  first
    | exact h
    | (rw [e] at h; exact h)
theorem side_one (W : World) (B G g l c : Nat) (cs : List Int) (K D : Int) (hG : W.heap.size = G) (hB : B ≤ G) (hl : Lst W (some ⟨g, 0, none⟩) l c cs) : Side (W.alloc (.cells #[.slice (some ⟨g, 0, none⟩) l c, .int .i64 K, .int .i64 D] 65)) B (.slice (some ⟨G, 0, none⟩) 1 1) [⟨cs, K, D⟩] := by
  subst hG
  refine ⟨[.slice (some ⟨g, 0, none⟩) l c, .int .i64 K, .int .i64 D], ⟨rfl, .inr ⟨_, 1, #[.slice (some ⟨g, 0, none⟩) l c, .int .i64 K, .int .i64 D], rfl, hB, World.alloc_heap_new W _, Nat.le_refl _, by decide, rfl, rfl⟩⟩, ⟨rfl, fun i hi => ?_⟩, by simp⟩
  obtain rfl : i = 0 := by simpa using hi
  exact ⟨_, l, c, rfl, rfl, rfl, hl.below (bl_new _), fun b o e => by cases e; rfl⟩
set_option maxHeartbeats 1000000 in
theorem boxLoop1_any (n : Int) (k kb : Nat) (w : World) (hc : w.cell? ⟨kb, 0, none⟩ = some (.int .i64 k)) (h4 : k ≤ 4) :
    Calls Try.prog 48 #[.int .i64 n, .pointer (some ⟨kb, 0, none⟩)] w fun e w' => (∃ g : Nat, e = .returned (.slice (some ⟨g, 0, none⟩) 1 1) ∧ Side w' w.heap.size (.slice (some ⟨g, 0, none⟩) 1 1) [⟨List.replicate k 0, n, 1⟩] ∧ w.heap.size ≤ g) ∧ Below w.heap.size w w' := by
  have zb := lt_of_cell hc
  simp only at zb
  have hmk := run_make_row' (P := Try.prog) 22 3 (.int .i64 0) 8 Try.underlying22 info_int rfl .i64 .i64 k (by omega) (by omega)
  go_enter Try.func48, Try.ntmps48
  go_wp2_with fail
  go_ret
  have hz : (w.alloc (.cells (madeCells #[.int .i64 0] k) 3)).heap.size = w.heap.size + 1 := by simp
  refine ⟨⟨w.heap.size + 1, rfl, side_one _ w.heap.size (w.heap.size + 1) w.heap.size k k _ n 1 hz (by omega) ⟨ints_of_rowI (row_zeros w k) (by simp) (by omega) (fun x hx => by have := List.eq_of_mem_replicate hx; omega), Nat.le_refl _, fun e => by cases e⟩, by omega⟩, bl_on (bl_new _) (bl_new _)⟩

theorem lst_keep {w w1 : World} {a : Option Addr} {l c X : Nat} {xs : List Int} (h : Lst w a l c xs) (ha : Flush a) (hk : ∀ b, b < w.heap.size → b ≠ X → w1.heap[b]? = w.heap[b]?) (hX : ∃ a l c, w.cell? ⟨X, 0, none⟩ = some (.slice a l c)) : Lst w1 a l c xs := by
  obtain ⟨⟨h1, h2, h3, h4⟩, h5⟩ := h
  refine ⟨⟨h1, h2, h3, ?_⟩, h5⟩
  rcases h4 with h4 | ⟨b, off, e, hc⟩
  · exact .inl h4
  · by_cases h0 : l = 0
    · exact .inl h0
    obtain rfl := ha b off e
    have c0 := hc 0 (by omega)
    have hb := lt_of_cell c0
    have hne : b ≠ X := fun ee => by
      subst ee
      obtain ⟨a', l', c', hs⟩ := hX
      rw [hs] at c0
      cases c0
    exact .inr ⟨b, 0, e, fun j hj => (World.cell?_of_block (w := w) (hk b hb hne)).trans (hc j hj)⟩
theorem VB.keep {w w1 : World} {vs : List Value} {bs : List LpB} {X : Nat} (h : VB w vs bs) (hk : ∀ b, b < w.heap.size → b ≠ X → w1.heap[b]? = w.heap[b]?) (hX : ∃ a l c, w.cell? ⟨X, 0, none⟩ = some (.slice a l c)) : VB w1 vs bs := ⟨h.1, fun i hi => by obtain ⟨a, l, c, h1, h2, h3, h4, h5⟩ := h.2 i hi; exact ⟨a, l, c, h1, h2, h3, lst_keep h4 h5 hk hX, h5⟩⟩
/-- A row of bounds stays where one block that is no list of numbers and not its own is written. -/
theorem Side.keep {w w1 : World} {B X : Nat} {v : Value} {bs : List LpB} (h : Side w B v bs) (hk : ∀ b, b < w.heap.size → b ≠ X → w1.heap[b]? = w.heap[b]?) (hX : ∃ a l c, w.cell? ⟨X, 0, none⟩ = some (.slice a l c)) (hne : v.ownBlock ≠ some X) : Side w1 B v bs := by
  obtain ⟨vs, h1, h2, h3⟩ := h
  refine ⟨vs, ⟨h1.1, ?_⟩, h2.keep hk hX, h3⟩
  rcases h1.2 with h2 | ⟨g, cap, cur, rfl, h2, h4, h5⟩
  · exact .inl h2
  · exact .inr ⟨g, cap, cur, rfl, h2, (hk g (Array.getElem?_eq_some_iff.1 h4).1 (fun e => hne (by rw [e]; rfl))).trans h4, h5⟩
theorem Side.base {w : World} {B B' : Nat} {v : Value} {bs : List LpB} (h : Side w B v bs) (hB : B' ≤ B) : Side w B' v bs := by
  obtain ⟨vs, h1, h2, h3⟩ := h
  refine ⟨vs, ⟨h1.1, ?_⟩, h2, h3⟩
  rcases h1.2 with h2 | ⟨g, cap, cur, rfl, h2, h4, h5⟩
  · exact .inl h2
  · exact .inr ⟨g, cap, cur, rfl, by omega, h4, h5⟩
theorem Side.lt {w : World} {B g l c : Nat} {bs : List LpB} (h : Side w B (.slice (some ⟨g, 0, none⟩) l c) bs) : B ≤ g ∧ g < w.heap.size := by
  obtain ⟨vs, h1, h2, h3⟩ := h
  rcases h1.2 with ⟨h2, _⟩ | ⟨g', cap, cur, e, h2, h4, h5⟩
  · cases h2
  · cases e
    exact ⟨h2, (Array.getElem?_eq_some_iff.1 h4).1⟩
set_option maxHeartbeats 2000000 in
theorem boxLoop_any (k : Nat) (e0 : Int) (w : World) (h4 : k ≤ 4) (he : 0 ≤ e0 ∧ e0 ≤ 4096) :
    Calls Try.prog 36 #[.int .i64 k, .int .i64 e0] w fun e w' => (∃ g1 g2 : Nat, e = .returned (.agg #[.slice (some ⟨g1, 0, none⟩) 1 1, .slice (some ⟨g2, 0, none⟩) 1 1]) ∧ Side w' w.heap.size (.slice (some ⟨g1, 0, none⟩) 1 1) [⟨List.replicate k 0, 0, 1⟩] ∧ Side w' w.heap.size (.slice (some ⟨g2, 0, none⟩) 1 1) [⟨List.replicate k 0, e0 - 1, 1⟩] ∧ w.heap.size ≤ g1 ∧ g1 < g2) ∧ Below w.heap.size w w' := by
  have B1 : Below w.heap.size w ((w.alloc (.cells #[.int .i64 k] 3)).alloc (.cells #[.slice none 0 0, .slice none 0 0] 48)) := bl_on (bl_new _) (bl_new _)
  have HB := hide B1
  have b1 : ((w.alloc (.cells #[.int .i64 k] 3)).alloc (.cells #[.slice none 0 0, .slice none 0 0] 48)).heap[w.heap.size]? = some (.cells #[.int .i64 k] 3 (0, 0)) := (Below.heap_alloc _ _ _ (by simp)).trans (World.alloc_heap_new _ _)
  have b2 : ((w.alloc (.cells #[.int .i64 k] 3)).alloc (.cells #[.slice none 0 0, .slice none 0 0] 48)).heap[w.heap.size + 1]? = some (.cells #[.slice none 0 0, .slice none 0 0] 48 (0, 0)) := by have := World.alloc_heap_new (w.alloc (.cells #[.int .i64 k] 3)) (.cells #[.slice none 0 0, .slice none 0 0] 48); simpa using this
  obtain ⟨W1, hW1⟩ : ∃ W1, W1 = (w.alloc (.cells #[.int .i64 k] 3)).alloc (.cells #[.slice none 0 0, .slice none 0 0] 48) := ⟨_, rfl⟩
  rw [← hW1] at HB b1 b2
  have hz : W1.heap.size = w.heap.size + 2 := by rw [hW1]; simp
  have HW1 := hide hW1
  have HK1 := hide b1
  have HK2 := hide b2
  clear hW1 b1 b2 B1
  go_enter Try.func36, Try.ntmps36
  go_wp2_with fail
  rw [← HW1.out]
  refine (boxLoop1_any 0 k w.heap.size W1 (by simp [World.cell?, HK1.out]) h4).mono ?_
  rintro e w1 ⟨⟨g1, rfl, s1, hg1⟩, hb1⟩
  have k1 : w1.heap[w.heap.size]? = some (.cells #[.int .i64 k] 3 (0, 0)) := (hb1.block _ (by omega)).trans HK1.out
  have HC := hide (boxLoop1_any (e0 - 1) k w.heap.size w1 (by simp [World.cell?, k1]) h4)
  have S1 := hide s1
  have HB1 := hide hb1
  have hz1 := hb1.size
  have hl1 := s1.lt.2
  clear s1 hb1 k1
  go_wp2_with fail
  refine HC.out.mono ?_
  rintro e w2 ⟨⟨g2, rfl, s2, hg2⟩, hb2⟩
  have S2 := hide s2
  have S1' := hide (S1.out.below hb2)
  have HB2 := hide (HB1.out.trans (hb2.mono hz1))
  have hz2 := hb2.size
  have m2 : w2.heap[w.heap.size + 1]? = some (.cells #[.slice none 0 0, .slice none 0 0] 48 (0, 0)) := (HB2.out.block _ (by omega)).trans HK2.out
  have n1 : w2.cell? ⟨w.heap.size + 1, 0, none⟩ = some (.slice none 0 0) := by simp [World.cell?, m2]
  have n2 : w2.cell? ⟨w.heap.size + 1, 1, none⟩ = some (.slice none 0 0) := by simp [World.cell?, m2]
  have n3 : w2.frozen? ⟨w.heap.size + 1, 0, none⟩ = false := by simp [World.frozen?, m2]
  have n4 : w2.frozen? ⟨w.heap.size + 1, 1, none⟩ = false := by simp [World.frozen?, m2]
  have z2 : w.heap.size + 1 < w2.heap.size := by omega
  have HM := hide m2
  clear s2 hb2 m2 S1 HB1 HK1 HK2 HW1
  go_wp2_with fail
  have bb : ((w2.setCell ⟨w.heap.size + 1, 0, none⟩ (.slice (some ⟨g1, 0, none⟩) 1 1)).setCell ⟨w.heap.size + 1, 1, none⟩ (.slice (some ⟨g2, 0, none⟩) 1 1)).heap[w.heap.size + 1]? = some (.cells #[.slice (some ⟨g1, 0, none⟩) 1 1, .slice (some ⟨g2, 0, none⟩) 1 1] 48 (0, 0)) := by
    simp [World.setCell, Array.getElem?_modify, HM.out]
  have y1 : ((w2.setCell ⟨w.heap.size + 1, 0, none⟩ (.slice (some ⟨g1, 0, none⟩) 1 1)).setCell ⟨w.heap.size + 1, 1, none⟩ (.slice (some ⟨g2, 0, none⟩) 1 1)).cell? ⟨w.heap.size + 1, 0, none⟩ = some (.slice (some ⟨g1, 0, none⟩) 1 1) := by simp only [World.cell?, bb]; rfl
  have y2 : ((w2.setCell ⟨w.heap.size + 1, 0, none⟩ (.slice (some ⟨g1, 0, none⟩) 1 1)).setCell ⟨w.heap.size + 1, 1, none⟩ (.slice (some ⟨g2, 0, none⟩) 1 1)).cell? ⟨w.heap.size + 1, 1, none⟩ = some (.slice (some ⟨g2, 0, none⟩) 1 1) := by simp only [World.cell?, bb]; rfl
  have hk : ∀ b, b < w2.heap.size → b ≠ w.heap.size + 1 → ((w2.setCell ⟨w.heap.size + 1, 0, none⟩ (.slice (some ⟨g1, 0, none⟩) 1 1)).setCell ⟨w.heap.size + 1, 1, none⟩ (.slice (some ⟨g2, 0, none⟩) 1 1)).heap[b]? = w2.heap[b]? := fun b _ hb => (Below.heap_setCell _ _ _ _ hb).trans (Below.heap_setCell _ _ _ _ hb)
  refine bodyPost_ret (v := .agg #[.slice (some ⟨g1, 0, none⟩) 1 1, .slice (some ⟨g2, 0, none⟩) 1 1]) (by simp [results, Try.results36, go_sem, y1, y2]) rfl ⟨⟨g1, g2, rfl, (S1'.out.base (by omega)).keep hk ⟨_, _, _, n1⟩ (by simp [Value.ownBlock]; omega), (S2.out.base (by omega)).keep hk ⟨_, _, _, n1⟩ (by simp [Value.ownBlock]; omega), by omega, by omega⟩, ?_⟩
  exact ((bl_on HB.out HB2.out).setCell (p := ⟨w.heap.size + 1, 0, none⟩) (by simp only; omega) _).setCell (p := ⟨w.heap.size + 1, 1, none⟩) (by simp only; omega) _
end Go.Proofs.Ytmefgejggpimeaa.V
