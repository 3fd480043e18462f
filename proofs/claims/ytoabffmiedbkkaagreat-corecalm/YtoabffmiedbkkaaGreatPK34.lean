/-
  Rows of posts: append, and taking the first one. Contract: core.fences.
-/
import Derived.Test.YtoabffmiedbkkaaGreatPK33
import Derived.Test.YtoabffmiedbkkaaGreatPK10
import Derived.Test.YtoabffmiedbkkaaGreatPK15
namespace Go.Proofs.YtoabffmiedbkkaaGreat.V
set_option maxRecDepth 20000
open Go Go.RowKit
set_option linter.unusedVariables false

def ivsI (xs : List Int) : List Value := xs.map fun x => .int .i64 x
theorem ci_info : (Tryz.prog.info? 3).map (fun i => (i.zero, i.size, i.bytes)) = some (some (.int .i64 0), 1, 8) := by kernel_rfl
def fBxI (row : Option Nat) (n : Int) : Fact := ⟨fun v W => ∃ Bk : Nat, v = .slice (some ⟨Bk, 0, none⟩) 1 1 ∧ W.heap[Bk]? = some (.cells #[.int .i64 n] 3 (0, 0)) ∧ some Bk ≠ row, false⟩
theorem fBxI_good (row : Option Nat) (n : Int) : (fBxI row n).GoodR (fun a b => a.grownBy b row) false := ⟨fun _ _ _ ⟨Bk, h1, h2, h3⟩ hb => ⟨Bk, h1, (hb.block Bk (Array.getElem?_eq_some_iff.1 h2).1).trans h2, h3⟩, fun _ _ _ _ ⟨Bk, h1, h2, h3⟩ hg => ⟨Bk, h1, (hg.block Bk (Array.getElem?_eq_some_iff.1 h2).1 h3).trans h2, h3⟩, fun h => by cases h⟩
def fApI (N N0 : Nat) (row : Option Nat) (n : Int) (m : Nat) (cr : List Value) : Fact := ⟨fun v W => (⟨v, 3, 1, m + 1, cr ++ [.int .i64 n]⟩ : Mb).own W N ∧ (v.ownBlock = row ∨ ∀ g, v.ownBlock = some g → N0 ≤ g), false⟩
theorem fApI_good (N N0 : Nat) (row : Option Nat) (n : Int) (m : Nat) (cr : List Value) (R : World → World → Prop) : (fApI N N0 row n m cr).GoodR R true := ⟨fun _ _ _ ⟨h1, h2⟩ hb => ⟨h1.below hb, h2⟩, (fun h => by cases h), (fun h => by cases h)⟩
theorem ci_is_good (c : Value) (R : World → World → Prop) (b : Bool) : (fIs c).GoodR R b := ⟨fun _ _ _ h _ => h, fun _ _ _ _ h _ => h, fun h => by cases h⟩
/-- append(posts, number), in whatever order. -/
theorem wp_append_i {w : World} {o : Oper} {a : Act} {Kc : Act → World → Prop} {Q : Exit → Act → World → Prop} (s x : Operand) (ho : o.op = .call { callee := .builtin .append, args := #[s, x], argTypes := #[26, 26] })
    (B : Nat) (v : Value) (m : Nat) (cr : List Value) (hs : a.eval s = v) (hS : (⟨v, 3, 1, m, cr⟩ : Mb).own w B) (Bk : Nat) (n : Int) (hx : a.eval x = .slice (some ⟨Bk, 0, none⟩) 1 1) (hy : w.heap[Bk]? = some (.cells #[.int .i64 n] 3 (0, 0))) (h8 : m ≤ 1000000000) (hB : B ≤ w.heap.size)
    (h : ∀ v' w', (⟨v', 3, 1, m + 1, cr ++ [.int .i64 n]⟩ : Mb).own w' B → w.grownBy w' v.ownBlock → (v'.ownBlock = v.ownBlock ∨ v'.ownBlock = some w.heap.size) → Kc (a.put o.dst v') w') : o.wp Tryz.prog a w Kc Q := by
  obtain ⟨i0, hi, hz0, hz1, hz2⟩ := info_parts ci_info
  obtain ⟨v', w', hrun, q2, q3, _, q5⟩ := run_append_own_at (P := Tryz.prog) w B 26 o.type 3 i0 _ 1 8 Tryz.underlying26 hi hz0 hz1 hz2 rfl (by decide) v m cr hS ⟨Bk, 0, none⟩ 1 1 [.int .i64 n] rfl (fun j y hj => by
    rw [Go.WideShapes.add_plain, Nat.zero_add]
    simp only [World.cell?, hy]
    simpa using hj) (fun y hy2 => by
      simp at hy2
      rw [hy2]
      rfl) (by unfold maxLen; omega) (by omega) hB
  unfold Oper.wp execOp
  simp only [ho, resolve, invoke, builtin, Sem.run_bind, Sem.run_pure, Result.andThen_ok, List.map_toArray, List.map_cons, List.map_nil, hs, hx, hrun]
  exact h v' w' q2 q3 q5
/-- A queue: what is left of a row. -/
def QV (w : World) (A O : Nat) (v : Value) (xs : List Int) : Prop := ∃ a len cap, v = .slice a len cap ∧ xs.length = len ∧ len ≤ cap ∧ (len = 0 ∨ ∃ b off, a = some ⟨b, off, none⟩ ∧ b ≠ A ∧ b ≠ O ∧ ∀ i, i < len → w.cell? ⟨b, off + i, none⟩ = some (.int .i64 (xs[i]?.getD 0)))
theorem QV.keep {w w' : World} {A O : Nat} {v : Value} {xs : List Int} (h : QV w A O v xs) (hk : ∀ b, b ≠ A → b ≠ O → b < w.heap.size → w'.heap[b]? = w.heap[b]?) : QV w' A O v xs := by
  obtain ⟨a, len, cap, h1, h2, h3, h4⟩ := h
  refine ⟨a, len, cap, h1, h2, h3, ?_⟩
  rcases h4 with h4 | ⟨b, off, e, n1, n2, h5⟩
  · exact .inl h4
  · exact .inr ⟨b, off, e, n1, n2, fun i hi => (World.cell?_of_block (hk b n1 n2 (lt_of_cell (h5 i hi)))).trans (h5 i hi)⟩
theorem take_none (A s : Nat) (a : Option Addr) (cap : Nat) (no : Int) (w : World) (hc : w.cell? ⟨A, s, none⟩ = some (.slice a 0 cap)) : Calls Tryz.prog 47 #[.pointer (some ⟨A, s, none⟩), .int .i64 no] w fun r w' => r = .returned (.int .i64 no) ∧ w' = w := by
  have zc := lt_of_cell hc
  simp only at zc
  go_enter Tryz.func47, Tryz.ntmps47
  go_wp2
  go_ret
  exact ⟨rfl, rfl⟩
def tailV (b off len cap : Nat) : Value := .slice (if cap = 1 then some ⟨b, off, none⟩ else some ⟨b, off + 1, none⟩) (len - 1) (cap - 1)
theorem take_some (A s b off len cap : Nat) (x no : Int) (w : World) (hl : 0 < len) (hlc : len ≤ cap) (hm : len ≤ 1000000000) (hc : w.cell? ⟨A, s, none⟩ = some (.slice (some ⟨b, off, none⟩) len cap)) (hf : w.frozen? ⟨A, s, none⟩ = false) (hx : w.cell? ⟨b, off, none⟩ = some (.int .i64 x)) :
    Calls Tryz.prog 47 #[.pointer (some ⟨A, s, none⟩), .int .i64 no] w fun r w' => r = .returned (.int .i64 x) ∧ w' = w.setCell ⟨A, s, none⟩ (tailV b off len cap) := by
  have zc := lt_of_cell hc
  have zx := lt_of_cell hx
  simp only at zc zx
  have l0 : ((len : Int) == 0) = false := by simp; omega
  have l1 : (0 : Int) < (len : Int) := by omega
  have l2 : 1 ≤ len := hl
  have l3 : (1 : Int) ≤ (len : Int) := by omega
  have l4 : ¬ len = 0 := by omega
  unfold tailV
  by_cases h1 : cap = 1
  · subst h1
    go_enter Tryz.func47, Tryz.ntmps47
    go_wp2
    go_ret
    exact ⟨rfl, rfl⟩
  · rw [if_neg h1]
    go_enter Tryz.func47, Tryz.ntmps47
    go_wp2
    go_ret
    exact ⟨rfl, rfl⟩
end Go.Proofs.YtoabffmiedbkkaaGreat.V
namespace Go.Proofs.YtoabffmiedbkkaaGreat.V
set_option maxRecDepth 20000
open Go Go.RowKit
set_option linter.unusedVariables false

/-- The posts that were gathered, in memory. -/
structure PIv (others : List In) (A : Nat) (j : Nat) (P : Nat → Value) (w : World) : Prop where
  box : w.rowIs A 91 16 P
  fam : Fm w (A + 1) 16 (fun s => ⟨P s, 3, 1, (postsTo others (s : Int) j).length, ivsI (postsTo others (s : Int) j)⟩)
theorem PIv.below {others : List In} {A j : Nat} {P : Nat → Value} {w w' : World} (h : PIv others A j P w) (hb : Below w.heap.size w w') : PIv others A j P w' := ⟨World.rowIs.of_block h.box (hb.block _ h.box.lt), h.fam.below hb⟩
theorem PIv.skip {others : List In} {A j : Nat} {P : Nat → Value} {w : World} (h : PIv others A j P w) (hd : (getI others j).d ≠ 3) : PIv others A (j + 1) P w := by
  refine ⟨h.box, h.fam.congr fun s hs => ?_⟩
  have : postsTo others (s : Int) (j + 1) = postsTo others (s : Int) j := by
    rw [postsTo, if_neg (by simp [postB, hd]), List.append_nil]
  rw [this]
theorem PIv.next {others : List In} {A j : Nat} {P : Nat → Value} {w wz : World} {a : Nat} {v : Value} (h : PIv others A j P w) (ha : a < 16) (hd : (getI others j).d = 3) (hea : (getI others j).a = (a : Int)) (hg : w.grownBy wz (P a).ownBlock)
    (hv : (⟨v, 3, 1, (postsTo others (a : Int) j).length + 1, ivsI (postsTo others (a : Int) j) ++ [.int .i64 ((j : Int) + 1)]⟩ : Mb).own wz (A + 1)) (ho : v.ownBlock = (P a).ownBlock ∨ ∀ g, v.ownBlock = some g → w.heap.size ≤ g) : PIv others A (j + 1) (fun s => if s = a then v else P s) (wz.setCell ⟨A, a, none⟩ v) := by
  have h1 := h.fam.put (k := a) (x := ⟨v, 3, 1, (postsTo others (a : Int) j).length + 1, ivsI (postsTo others (a : Int) j) ++ [.int .i64 ((j : Int) + 1)]⟩) ha hg hv ho
  have hA : A < w.heap.size := h.box.lt
  have hAz : some A ≠ (P a).ownBlock := fun e => by
    have := ((h.fam.row a ha).at e.symm).1
    omega
  have hbx : wz.rowIs A 91 16 P := World.rowIs.of_block h.box (hg.block A hA hAz)
  refine ⟨hbx.set a v, ?_⟩
  have h2 : Fm (wz.setCell ⟨A, a, none⟩ v) (A + 1) 16 _ := ⟨fun i hi => (h1.row i hi).keep (w1 := wz.setCell ⟨A, a, none⟩ v) fun g e hlt => heap_setCell_other _ _ _ _ (fun e2 => by
    have := ((h1.row i hi).at e).1
    simp only at e2
    omega), h1.apart⟩
  refine h2.congr fun s hs => ?_
  by_cases e : s = a
  · subst e
    rw [upF_eq]
    have : postsTo others (s : Int) (j + 1) = postsTo others (s : Int) j ++ [(j : Int) + 1] := by
      rw [postsTo, if_pos (by simp [postB, hd, hea])]
    simp only [if_true, this]
    simp [ivsI]
  · rw [upF_ne e]
    have : postsTo others (s : Int) (j + 1) = postsTo others (s : Int) j := by
      rw [postsTo, if_neg (by simp [postB, hea]; intro _ h9; exact e (by omega)), List.append_nil]
    simp only [if_neg e, this]
/-- The queues that are left. -/
structure QIv (own others : List In) (A O ml : Nat) (k : Nat) (P : Nat → Value) (w : World) : Prop where
  box : w.rowIs A 91 16 P
  qs : ∀ s, s < 16 → QV w A O (P s) ((postsTo others (s : Int) others.length).drop (waitsTo own (s : Int) k))
  out : IRow w O ml (fun i => if i < k then fenTo own others (i + 1) else 0)
  ne : O ≠ A
theorem qv_of {w : World} {B A O : Nat} {v : Value} {xs : List Int} (h : (⟨v, 3, 1, xs.length, ivsI xs⟩ : Mb).own w B) (hA : A < B) (hO : w.heap.size ≤ O) : QV w A O v xs := by
  rcases h.2 with ⟨h1, h2⟩ | ⟨g, cap, cur, h1, h3, h4, h5, h6, h7, h8⟩
  · simp only at h1 h2
    exact ⟨none, 0, 0, h1, h2, Nat.le_refl _, .inl rfl⟩
  · simp only at h1 h3 h4 h5 h7 h8
    have hg := (Array.getElem?_eq_some_iff.1 h4).1
    refine ⟨_, _, cap, h1, rfl, h5, .inr ⟨g, 0, rfl, by omega, by omega, fun i hi => ?_⟩⟩
    have h9 : (cur.toList.take (xs.length * 1))[i]? = (ivsI xs)[i]? := by rw [h8]
    rw [List.getElem?_take_of_lt (by omega), Array.getElem?_toList] at h9
    rw [Nat.zero_add]
    simp [World.cell?, h4, h9, ivsI, hi]
theorem QIv.below {own others : List In} {A O ml k : Nat} {P : Nat → Value} {w w' : World} (h : QIv own others A O ml k P w) (hb : Below w.heap.size w w') : QIv own others A O ml k P w' := ⟨World.rowIs.of_block h.box (hb.block _ h.box.lt), fun s hs => (h.qs s hs).keep fun b _ _ hlt => hb.block b hlt, h.out.below hb, h.ne⟩
/-- A number is told. -/
theorem QIv.put {own others : List In} {A O ml k : Nat} {P P' : Nat → Value} {w w' : World} (h : QIv own others A O ml k P w) (hk : k < ml) (hbx : w'.rowIs A 91 16 P') (hqs : ∀ s, s < 16 → QV w' A O (P' s) ((postsTo others (s : Int) others.length).drop (waitsTo own (s : Int) (k + 1)))) (ho : IRow w' O ml (fun i => if i < k then fenTo own others (i + 1) else 0)) : QIv own others A O ml (k + 1) P' (w'.setCell ⟨O, k, none⟩ (.int .i64 (fenTo own others (k + 1)))) := by
  refine ⟨World.rowIs.of_block hbx (heap_setCell_other _ _ _ _ h.ne.symm), fun s hs => (hqs s hs).keep fun b _ h2 _ => heap_setCell_other _ _ _ _ h2, (ho.put k _).congr fun i hi => ?_, h.ne⟩
  by_cases e : i = k
  · subst e
    rw [if_pos rfl, if_pos (by omega)]
  · rw [if_neg e]
    by_cases h1 : i < k
    · rw [if_pos h1, if_pos (by omega)]
    · rw [if_neg h1, if_neg (by omega)]
theorem waits_same {own : List In} {k : Nat} {s : Int} (h : waitB (getI own k) s = false) : waitsTo own s (k + 1) = waitsTo own s k := by
  rw [waitsTo, if_neg (by simp [h])]
  omega
theorem waits_more {own : List In} {k : Nat} {s : Int} (h : waitB (getI own k) s = true) : waitsTo own s (k + 1) = waitsTo own s k + 1 := by
  rw [waitsTo, if_pos h]
theorem QV.tail {w w' : World} {A O b off len cap : Nat} {xs : List Int} (h2 : xs.length = len) (h0 : 0 < len) (h3 : len ≤ cap) (n1 : b ≠ A) (n2 : b ≠ O) (hc : ∀ i, i < len → w.cell? ⟨b, off + i, none⟩ = some (.int .i64 (xs[i]?.getD 0))) (hk : b < w.heap.size → w'.heap[b]? = w.heap[b]?) : QV w' A O (tailV b off len cap) (xs.drop 1) := by
  refine ⟨_, _, _, rfl, by simp [h2], by omega, ?_⟩
  by_cases h1 : cap = 1
  · exact .inl (by omega)
  · by_cases h4 : len - 1 = 0
    · exact .inl h4
    · refine .inr ⟨b, off + 1, by rw [if_neg h1], n1, n2, fun i hi => ?_⟩
      have h5 := hc (i + 1) (by omega)
      have h6 := (World.cell?_of_block (hk (lt_of_cell h5))).trans h5
      rw [show off + 1 + i = off + (i + 1) by omega, h6]
      simp
theorem atV_none {own others : List In} {k : Nat} (h : ((postsTo others (getI own k).a others.length).drop (waitsTo own (getI own k).a k)).length = 0) : atV own others k = (others.length : Int) := by
  unfold atV
  rw [List.getElem?_eq_none (by simp at h; omega)]
  rfl
theorem atV_some {own others : List In} {k : Nat} (h : 0 < ((postsTo others (getI own k).a others.length).drop (waitsTo own (getI own k).a k)).length) : atV own others k = ((postsTo others (getI own k).a others.length).drop (waitsTo own (getI own k).a k))[0]?.getD 0 := by
  unfold atV
  rw [List.getElem?_drop, Nat.add_zero]
  have h1 : waitsTo own (getI own k).a k < (postsTo others (getI own k).a others.length).length := by simp at h; omega
  simp [h1]
set_option maxRecDepth 100000 in
set_option maxHeartbeats 4000000 in
theorem fences_any (oa : Option Addr) (ol oc : Nat) (own : List In) (ta : Option Addr) (tl tc : Nat) (others : List In) (w : World) (ho : Inss w oa ol own) (ht : Inss w ta tl others) (hol : ol ≤ 262144) (htl : tl ≤ 262144) (hos : ∀ x ∈ own, x.d = 3 ∨ x.d = 4 → 0 ≤ x.a ∧ x.a < 16) (hts : ∀ x ∈ others, x.d = 3 ∨ x.d = 4 → 0 ≤ x.a ∧ x.a < 16) :
    Calls Tryz.prog 36 #[.slice oa ol oc, .slice ta tl tc] w fun r w' => (∃ O, r = .returned (.slice (some ⟨O, 0, none⟩) ol ol) ∧ w.heap.size ≤ O ∧ IRow w' O ol (fun i => fenTo own others (i + 1))) ∧ Below w.heap.size w w' := by
  obtain ⟨W, hW⟩ : ∃ W, W = w.alloc (.cells #[.slice none 0 0, .slice none 0 0, .slice none 0 0, .slice none 0 0, .slice none 0 0, .slice none 0 0, .slice none 0 0, .slice none 0 0, .slice none 0 0, .slice none 0 0, .slice none 0 0, .slice none 0 0, .slice none 0 0, .slice none 0 0, .slice none 0 0, .slice none 0 0] 91) := ⟨_, rfl⟩
  have hb : Below w.heap.size w W := by rw [hW]; exact bl_new _
  have hP : PIv others w.heap.size 0 (fun _ => .slice none 0 0) W := by
    refine ⟨?_, fun s hs => World.ownsRow_nil _ _ _ _, fun i j g _ _ e _ => by cases e⟩
    have h1 := World.alloc_heap_new w (.cells #[.slice none 0 0, .slice none 0 0, .slice none 0 0, .slice none 0 0, .slice none 0 0, .slice none 0 0, .slice none 0 0, .slice none 0 0, .slice none 0 0, .slice none 0 0, .slice none 0 0, .slice none 0 0, .slice none 0 0, .slice none 0 0, .slice none 0 0, .slice none 0 0] 91)
    rw [← hW] at h1
    refine ⟨_, h1, rfl, fun i hi => ?_⟩
    have hrep : (#[.slice none 0 0, .slice none 0 0, .slice none 0 0, .slice none 0 0, .slice none 0 0, .slice none 0 0, .slice none 0 0, .slice none 0 0, .slice none 0 0, .slice none 0 0, .slice none 0 0, .slice none 0 0, .slice none 0 0, .slice none 0 0, .slice none 0 0, .slice none 0 0] : Array Value) = Array.replicate 16 (.slice none 0 0) := rfl
    rw [hrep]
    simp [hi]
  have hmk := run_make_row' (P := Tryz.prog) 26 3 (.int .i64 0) 8 Tryz.underlying26 (by kernel_rfl) rfl .i64 .i64 ol (by omega) (by omega)
  have HW := hide hW
  have HB := hide hb
  have HP := hide hP
  have HO := hide ho
  have HT := hide ht
  have HOS := hide hos
  have HTS := hide hts
  have HLL := hide (And.intro ho.1 ht.1)
  clear hW hb hP ho ht hos hts
  go_enter Tryz.func36, Tryz.ntmps36
  go_upto_region 2 with fail
  rw [← HW.out]
  go_wp2_with fail
  go_loopw [14] (fun v14 wr => ∃ j : Nat, j ≤ tl ∧ v14 = .int .i64 j ∧ (∃ P, PIv others w.heap.size j P wr) ∧ Below w.heap.size w wr) (fun v14 _ => tl - (intOf v14).toNat)
  case atStart => exact ⟨0, by omega, rfl, ⟨_, HP.out⟩, HB.out⟩
  case round =>
    obtain ⟨j, hj, rfl, ⟨P, hpi⟩, hbr⟩ := hrel
    by_cases hjl : j < tl
    · have hjz : (j : Int) < (tl : Int) := by omega
      obtain ⟨b, off, rfl, hin⟩ := HT.out.2.2.resolve_left (by omega)
      obtain ⟨k0, k1, k2, k3, k4, k5⟩ := (hin j hjl).below hbr
      obtain ⟨x, hx⟩ : ∃ x, x = others[j]?.getD inD := ⟨_, rfl⟩
      have hjm : j < others.length := by have := HT.out.1; omega
      have hxm : x.d = 3 ∨ x.d = 4 → 0 ≤ x.a ∧ x.a < 16 := HTS.out x (by rw [hx]; exact mem_getI _ _ hjm)
      have hgx : getI others j = x := by rw [hx]; rfl
      rw [← hx] at k0 k1 k2 k3 k4 k5
      obtain ⟨V, hV⟩ : ∃ V, V = wr.alloc (.cells #[.int .i64 x.d, .int .i64 x.a, .int .i64 x.b, .int .i64 x.c, .int .i64 x.n, .int .i64 x.v] 50) := ⟨_, rfl⟩
      have hbV : Below wr.heap.size wr V := by rw [hV]; exact bl_new _
      have hI : InBlk V wr.heap.size x := by rw [hV]; exact InBlk.new _ _
      obtain ⟨g9, hg9⟩ : ∃ g9, g9 = wr.heap.size := ⟨_, rfl⟩
      rw [← hg9] at hI
      have zk := lt_of_cell k0
      simp only at zk
      have hpv := hpi.below hbV
      have HV := hide hV
      have H9 := hide hg9
      have HI := hide hI
      have HPV := hide hpv
      have HBV := hide (bl_on hbr hbV)
      have HGX := hide hgx
      have H9N : Hid (∀ s, s < 16 → some g9 ≠ (P s).ownBlock) := fun s hs e => by
        have h1 := ((hpi.fam.row s hs).at e.symm).2
        omega
      clear hin hbV hI hV hg9 hbr hx hgx hpi hpv
      go_upto_region 5 with fail
      rw [← HV.out, ← H9.out]
      clear k0 k1 k2 k3 k4 k5 zk
      obtain ⟨⟨i0, i1, i2, i3, i4, i5⟩, zi⟩ := HI.out.cells
      by_cases e3 : x.d = 3
      · have q3 : (x.d == 3) = true := by simpa using e3
        obtain ⟨a, hA⟩ : ∃ a : Nat, x.a = (a : Int) := ⟨x.a.toNat, by have := hxm (.inl e3); omega⟩
        have hA2 : a < 16 := by have := hxm (.inl e3); omega
        have hAz : (a : Int) < 16 := by omega
        rw [hA] at i1
        have HE3 := hide (And.intro e3 hA)
        have hw1 : IntKind.i64.wrap ((j : Int) + 1) = (j : Int) + 1 := by rw [IntKind.wrap_i64]; omega
        clear e3 hxm hA
        go_upto_region 6 with fail
        refine region_madeR (fun a_ b_ => a_.grownBy b_ (P a).ownBlock) (fun _ _ _ h k => grown_tr h k) (fun _ _ h => grown_bl h) 9 11 13 [fIs (.pointer (some ⟨g9, 1, none⟩)), fIs (.int .i64 (a : Int)), fIs (.pointer (some ⟨g9, 1, none⟩)), fIs (.int .i64 (a : Int)), fIs (.pointer (some ⟨w.heap.size, a, none⟩)), fIs (P a), fIs (.int .i64 (j : Int)), fIs (.int .i64 ((j : Int) + 1)), fBxI (P a).ownBlock ((j : Int) + 1), fApI (w.heap.size + 1) V.heap.size (P a).ownBlock ((j : Int) + 1) (postsTo others (a : Int) j).length (ivsI (postsTo others (a : Int) j)), fIs (.pointer (some ⟨w.heap.size, a, none⟩))] (by kernel_rfl) (by kernel_rfl) (by kernel_rfl) (fun ch p q w3 e h => by obtain ⟨t1, d1⟩ := p; obtain ⟨t2, d2⟩ := q; cases e; exact h) ⟨ci_is_good _ _ _, ci_is_good _ _ _, ci_is_good _ _ _, ci_is_good _ _ _, ci_is_good _ _ _, ci_is_good _ _ _, ci_is_good _ _ _, ci_is_good _ _ _, fBxI_good _ _, fApI_good _ _ _ _ _ _ _, ci_is_good _ _ _, trivial⟩ ?mk6 ?rest6
        case mk6 =>
          refine ⟨fun u wz hb hs hd => ?_, fun u wz hb hs hd => ?_, fun u wz hb hs hd => ?_, fun u wz hb hs hd => ?_, fun u wz hb hs hd => ?_, fun u wz hb hs hd => ?_, fun u wz hb hs hd => ?_, fun u wz hb hs hd => ?_, fun u wz hb hs hd => ?_, fun u wz hb hs hd => ?_, fun u wz hb hs hd => ?_, trivial⟩
          all_goals simp only [Act.put, List.setIfInBounds_toArray, List.set_cons_zero, List.set_cons_succ]
          · go_simp
            exact ⟨rfl, St.of (Below.refl _ _) (by decide), fun h => by cases h⟩
          · have e0 : u 0 = .pointer (some ⟨g9, 1, none⟩) := hd 0 (by omega) (by kernel_rfl)
            rw [e0]
            have p1 := (World.cell?_of_block (hb.block g9 zi (H9N.out a hA2))).trans i1
            have p3 := Nat.lt_of_lt_of_le zi hb.size
            go_simp
            exact ⟨rfl, St.of (Below.refl _ _) (by decide), fun h => by cases h⟩
          · go_simp
            exact ⟨rfl, St.of (Below.refl _ _) (by decide), fun h => by cases h⟩
          · have e2 : u 2 = .pointer (some ⟨g9, 1, none⟩) := hd 2 (by omega) (by kernel_rfl)
            rw [e2]
            have p1 := (World.cell?_of_block (hb.block g9 zi (H9N.out a hA2))).trans i1
            have p3 := Nat.lt_of_lt_of_le zi hb.size
            go_simp
            exact ⟨rfl, St.of (Below.refl _ _) (by decide), fun h => by cases h⟩
          · have e3 : u 3 = .int .i64 (a : Int) := hd 3 (by omega) (by kernel_rfl)
            rw [e3]
            go_simp
            exact ⟨rfl, St.of (Below.refl _ _) (by decide), fun h => by cases h⟩
          · have e4 : u 4 = .pointer (some ⟨w.heap.size, a, none⟩) := hd 4 (by omega) (by kernel_rfl)
            rw [e4]
            have hbx : wz.rowIs w.heap.size 91 16 P := World.rowIs.of_block HPV.out.box (hb.block _ HPV.out.box.lt (fun e => by have h7 := ((HPV.out.fam.row a hA2).at e.symm).1; omega))
            have p1 := hbx.cell hA2
            have p3 := hbx.lt
            go_simp
            exact ⟨rfl, St.of (Below.refl _ _) (by decide), fun h => by cases h⟩
          · go_simp
            exact ⟨rfl, St.of (Below.refl _ _) (by decide), fun h => by cases h⟩
          · have e6 : u 6 = .int .i64 (j : Int) := hd 6 (by omega) (by kernel_rfl)
            rw [e6]
            go_simp
            exact ⟨rfl, St.of (Below.refl _ _) (by decide), fun h => by cases h⟩
          · have e7 : u 7 = .int .i64 ((j : Int) + 1) := hd 7 (by omega) (by kernel_rfl)
            rw [e7]
            go_simp
            refine ⟨⟨wz.heap.size, rfl, World.alloc_heap_new _ _, ?_⟩, St.of (bl_new _) (by decide), fun h => by cases h⟩
            intro e
            have h7 := ((HPV.out.fam.row a hA2).at e.symm).2
            have h8 := hb.size
            omega
          · have e5 : u 5 = P a := hd 5 (by omega) (by kernel_rfl)
            obtain ⟨B7, e7, h7, n7⟩ := hd 8 (by omega) (by kernel_rfl)
            rw [e5, e7]
            have hbb := hs rfl
            have hown := (HPV.out.fam.row a hA2).below hbb
            refine wp_append_i (.tmp 27) (.tmp 30) rfl (w.heap.size + 1) _ (postsTo others (a : Int) j).length (ivsI (postsTo others (a : Int) j)) rfl hown B7 ((j : Int) + 1) rfl h7 (by have := postsTo_len others (a : Int) j; omega) (by have h8 := hb.size; have h9 := HPV.out.box.lt; omega) (fun v' w3 hS hg ho => ?_)
            refine ⟨v', rfl, ⟨hS, ?_⟩, St.at hg, fun h => by cases h⟩
            rcases ho with ho | ho
            · exact .inl ho
            · exact .inr (fun g hg2 => by rw [ho] at hg2; cases hg2; exact hb.size)
          · have e1 : u 1 = .int .i64 (a : Int) := hd 1 (by omega) (by kernel_rfl)
            rw [e1]
            go_simp
            exact ⟨rfl, St.of (Below.refl _ _) (by decide), fun h => by cases h⟩
        case rest6 =>
          intro u wz hb hf hp
          have f10 : u 10 = .pointer (some ⟨w.heap.size, a, none⟩) := hf 10 (by omega)
          obtain ⟨h8, o8⟩ := hf 9 (by omega)
          obtain ⟨v8, f8⟩ : ∃ v8, u 9 = v8 := ⟨_, rfl⟩
          rw [f8] at h8 o8
          refine UptoW.rest 1 11 (by rfl) (by kernel_rfl) ?_
          simp only [List.take, List.drop, putOps, Act.put, List.setIfInBounds_toArray, List.set_cons_zero, List.set_cons_succ, Nat.reduceAdd, f10, f8]
          clear f10 f8 hf hp
          obtain ⟨g8, c8, e8v⟩ := h8.slice (by simp)
          simp only at e8v
          subst e8v
          have HN := hide (HPV.out.next hA2 (by rw [HGX.out]; exact HE3.out.1) (by rw [HGX.out]; exact HE3.out.2) hb h8 o8)
          have hbx : wz.rowIs w.heap.size 91 16 P := World.rowIs.of_block HPV.out.box (hb.block _ HPV.out.box.lt (fun e => by have h7 := ((HPV.out.fam.row a hA2).at e.symm).1; omega))
          have p1 := hbx.cell hA2
          have p2 := hbx.frozen a
          have p3 := hbx.lt
          have HNB := hide ((HBV.out.grown hb HBV.out.size fun y e => by have h7 := ((HPV.out.fam.row a hA2).at e).1; omega).setCell (p := ⟨w.heap.size, a, none⟩) (by simp) (.slice (some ⟨g8, 0, none⟩) ((postsTo others (a : Int) j).length + 1) c8))
          clear hb h8 o8 hbx
          refine wpList_plain rfl (fun KK hKK => ?_)
          go_simp
          refine hKK _ _ (wpList_nil ?_)
          clear hKK KK
          go_wp2_with fail
          go_roundw
          case rel => exact ⟨j + 1, by omega, by go_num, ⟨_, HN.out⟩, HNB.out⟩
          case measure => simp [intOf]; omega
      · have q3 : (x.d == 3) = false := by simpa using e3
        have HN := hide (HPV.out.skip (by rw [HGX.out]; exact e3))
        clear e3 hxm
        go_wp2_with fail
        go_roundw
        case rel => exact ⟨j + 1, by omega, by go_num, ⟨P, HN.out⟩, HBV.out⟩
        case measure => simp [intOf]; omega
    · have hjz : ¬ (j : Int) < (tl : Int) := by omega
      obtain rfl : tl = j := by omega
      obtain ⟨V, hV⟩ : ∃ V, V = wr.alloc (.cells (madeCells #[.int .i64 0] ol) 3) := ⟨_, rfl⟩
      have hbV : Below wr.heap.size wr V := by rw [hV]; exact bl_new _
      obtain ⟨O, hO⟩ : ∃ O, O = wr.heap.size := ⟨_, rfl⟩
      have hR0 : IRow V O ol (fun _ => 0) := by rw [hV, hO]; exact World.rowIs_made wr (.int .i64 0) ol 3
      have hq : QIv own others w.heap.size O ol 0 P V := by
        refine ⟨World.rowIs.of_block hpi.box (hbV.block _ hpi.box.lt), fun s hs => ?_, hR0.congr fun i hi => by rw [if_neg (by omega)], by have := hpi.box.lt; omega⟩
        have h1 : QV wr w.heap.size O (P s) (postsTo others (s : Int) others.length) := by
          have h2 := hpi.fam.row s hs
          rw [← HT.out.1] at h2
          exact qv_of h2 (by omega) (by omega)
        rw [waitsTo, List.drop_zero]
        exact h1.keep fun b _ _ hlt => hbV.block b hlt
      have HV := hide hV
      have HOE := hide hO
      have HQ := hide hq
      have HBV := hide (bl_on hbr hbV)
      have HON : Hid (w.heap.size ≤ O) := by rw [Hid, hO]; exact hbr.size
      clear hV hO hR0 hq hbV hbr hpi
      go_upto_region 9 with fail
      rw [← HV.out, ← HOE.out]
      go_wp2_with fail
      go_loopw [9, 39] (fun v9 v39 wv => ∃ k : Nat, k ≤ ol ∧ v39 = .int .i64 k ∧ v9 = .int .i64 (fenTo own others k) ∧ (∃ P, QIv own others w.heap.size O ol k P wv) ∧ Below w.heap.size w wv) (fun v9 v39 _ => ol - (intOf v39).toNat)
      case atStart => exact ⟨0, by omega, rfl, rfl, ⟨_, HQ.out⟩, HBV.out⟩
      case round =>
        obtain ⟨k, hk, rfl, rfl, ⟨P, hqi⟩, hbv⟩ := hrel
        by_cases hkl : k < ol
        · have hkz : (k : Int) < (ol : Int) := by omega
          obtain ⟨b, off, rfl, hin⟩ := HO.out.2.2.resolve_left (by omega)
          obtain ⟨k0, k1, k2, k3, k4, k5⟩ := (hin k hkl).below hbv
          obtain ⟨x, hx⟩ : ∃ x, x = own[k]?.getD inD := ⟨_, rfl⟩
          have hjm : k < own.length := by have := HO.out.1; omega
          have hxm : x.d = 3 ∨ x.d = 4 → 0 ≤ x.a ∧ x.a < 16 := HOS.out x (by rw [hx]; exact mem_getI _ _ hjm)
          have hgx : getI own k = x := by rw [hx]; rfl
          rw [← hx] at k0 k1 k2 k3 k4 k5
          obtain ⟨V, hV⟩ : ∃ V, V = wr.alloc (.cells #[.int .i64 x.d, .int .i64 x.a, .int .i64 x.b, .int .i64 x.c, .int .i64 x.n, .int .i64 x.v] 50) := ⟨_, rfl⟩
          have hbV : Below wr.heap.size wr V := by rw [hV]; exact bl_new _
          have hI : InBlk V wr.heap.size x := by rw [hV]; exact InBlk.new _ _
          obtain ⟨g9, hg9⟩ : ∃ g9, g9 = wr.heap.size := ⟨_, rfl⟩
          rw [← hg9] at hI
          have zk := lt_of_cell k0
          simp only at zk
          have hfb := fenTo_bd own others k
          obtain ⟨X, hX⟩ : ∃ X, X = fenTo own others k := ⟨_, rfl⟩
          rw [← hX]
          have HX := hide hX
          have HV := hide hV
          have H9 := hide hg9
          have HI := hide hI
          have HQV := hide (hqi.below hbV)
          have HBV2 := hide (bl_on hbv hbV)
          have HGX := hide hgx
          clear hin hbV hI hV hg9 hbv hx hgx hqi hX hfb
          go_upto_region 13 with fail
          rw [← HV.out, ← H9.out]
          clear k0 k1 k2 k3 k4 k5 zk
          obtain ⟨⟨i0, i1, i2, i3, i4, i5⟩, zi⟩ := HI.out.cells
          by_cases e4 : x.d = 4
          · have q4 : (x.d == 4) = true := by simpa using e4
            obtain ⟨a, hA⟩ : ∃ a : Nat, x.a = (a : Int) := ⟨x.a.toNat, by have := hxm (.inr e4); omega⟩
            have hA2 : a < 16 := by have := hxm (.inr e4); omega
            have hAz : (a : Int) < 16 := by omega
            rw [hA] at i1
            obtain ⟨Y, hY⟩ : ∃ Y, Y = atV own others k := ⟨_, rfl⟩
            have HF : Hid (fenTo own others (k + 1) = max X Y) := by rw [Hid, fenTo, if_pos (by rw [HGX.out]; exact e4), ← HX.out, hY]
            have HWM : Hid (∀ s : Nat, s < 16 → waitsTo own (s : Int) (k + 1) = if s = a then waitsTo own (s : Int) k + 1 else waitsTo own (s : Int) k) := fun s hs => by
              by_cases e : s = a
              · rw [if_pos e, waits_more (by rw [HGX.out]; simp [waitB, e4, hA, e])]
              · rw [if_neg e, waits_same (by rw [HGX.out]; simp [waitB, hA]; intro _ h9; exact e (by omega))]
            obtain ⟨xs, hxs⟩ : ∃ xs, xs = (postsTo others (a : Int) others.length).drop (waitsTo own (a : Int) k) := ⟨_, rfl⟩
            have hq := HQV.out.qs a hA2
            rw [← hxs] at hq
            have hga : (getI own k).a = (a : Int) := by rw [HGX.out]; exact hA
            have HYN : Hid (xs.length = 0 → Y = (tl : Int)) := fun h => by
              rw [hY, atV_none (by rw [hga, ← hxs]; exact h), HT.out.1]
            have HYS : Hid (0 < xs.length → Y = xs[0]?.getD 0) := fun h => by
              rw [hY, atV_some (by rw [hga, ← hxs]; exact h), hga, ← hxs]
            have HXS : Hid (xs.drop 1 = (postsTo others (a : Int) others.length).drop (waitsTo own (a : Int) k + 1)) := by rw [Hid, hxs, List.drop_drop]
            have HXL : Hid (xs.length ≤ 262144) := by
              rw [Hid, hxs]
              have h1 := postsTo_len others (a : Int) others.length
              have h2 := HT.out.1
              simp
              omega
            have HXE := hide hxs
            obtain ⟨qa, ql, qc, hqe, hql, hqc, hqq⟩ := hq
            have p1 := HQV.out.box.cell hA2
            have p2 := HQV.out.box.frozen a
            have pz := HQV.out.box.lt
            rw [hqe] at p1
            clear e4 hxm hA hY hxs hga
            by_cases hz : ql = 0
            · subst hz
              have HYE := hide (HYN.out hql)
              have HQN : Hid (∀ s, s < 16 → QV V w.heap.size O (P s) ((postsTo others (s : Int) others.length).drop (waitsTo own (s : Int) (k + 1)))) := fun s hs => by
                rw [HWM.out s hs]
                by_cases e : s = a
                · subst e
                  rw [if_pos rfl, ← HXS.out]
                  have e0 : xs.drop 1 = [] := by have : xs = [] := List.length_eq_zero_iff.1 hql
                                                 rw [this]; rfl
                  rw [e0]
                  exact ⟨qa, 0, qc, hqe, rfl, hqc, .inl rfl⟩
                · rw [if_neg e]
                  exact HQV.out.qs s hs
              clear hqq hql
              go_wp2_with fail
              refine (take_none w.heap.size a qa qc (tl : Int) V p1).mono ?_
              rintro r w2 ⟨rfl, hw2⟩
              obtain rfl := hw2.symm
              have d0 := HQV.out.out.cell hkl
              have y0 := HQV.out.out.frozen k
              have zo := HQV.out.out.lt
              by_cases hxy : X < (tl : Int)
              · have HF2 : Hid (fenTo own others (k + 1) = (tl : Int)) := by rw [Hid, HF.out, HYE.out]; omega
                have hN := HQV.out.put hkl HQV.out.box HQN.out HQV.out.out
                rw [HF2.out] at hN
                have HN := hide hN
                have HNB := hide (HBV2.out.setCell (p := ⟨O, k, none⟩) HON.out (.int .i64 (tl : Int)))
                clear hN p1 p2 pz
                go_wp2_with fail
                go_roundw
                case rel => exact ⟨k + 1, by omega, by go_num, by rw [HF2.out], ⟨_, HN.out⟩, HNB.out⟩
                case measure => simp [intOf]; omega
              · have HF2 : Hid (fenTo own others (k + 1) = X) := by rw [Hid, HF.out, HYE.out]; omega
                have hN := HQV.out.put hkl HQV.out.box HQN.out HQV.out.out
                rw [HF2.out] at hN
                have HN := hide hN
                have HNB := hide (HBV2.out.setCell (p := ⟨O, k, none⟩) HON.out (.int .i64 X))
                clear hN p1 p2 pz
                go_wp2_with fail
                go_roundw
                case rel => exact ⟨k + 1, by omega, by go_num, by rw [HF2.out], ⟨_, HN.out⟩, HNB.out⟩
                case measure => simp [intOf]; omega
            · obtain ⟨qb, qo, hqa, n1, n2, hcl⟩ := hqq.resolve_left hz
              subst hqa
              have hx0 := hcl 0 (by omega)
              rw [Nat.add_zero] at hx0
              have HYE := hide (HYS.out (by omega))
              obtain ⟨Z, hZ⟩ : ∃ Z, Z = xs[0]?.getD 0 := ⟨_, rfl⟩
              rw [← hZ] at hx0 HYE
              obtain ⟨V3, hV3⟩ : ∃ V3, V3 = V.setCell ⟨w.heap.size, a, none⟩ (tailV qb qo ql qc) := ⟨_, rfl⟩
              have hoth : ∀ y, y ≠ w.heap.size → V3.heap[y]? = V.heap[y]? := fun y hy => by rw [hV3]; exact heap_setCell_other _ _ _ _ hy
              have HQN : Hid (∀ s, s < 16 → QV V3 w.heap.size O (if s = a then tailV qb qo ql qc else P s) ((postsTo others (s : Int) others.length).drop (waitsTo own (s : Int) (k + 1)))) := fun s hs => by
                rw [HWM.out s hs]
                by_cases e : s = a
                · subst e
                  rw [if_pos rfl, if_pos rfl, ← HXS.out]
                  exact QV.tail hql (by omega) hqc n1 n2 hcl fun _ => hoth qb n1
                · rw [if_neg e, if_neg e]
                  exact (HQV.out.qs s hs).keep fun b h1 _ _ => hoth b h1
              have HBX : Hid (V3.rowIs w.heap.size 91 16 (fun s => if s = a then tailV qb qo ql qc else P s)) := by rw [Hid, hV3]; exact HQV.out.box.set a _
              have HOX : Hid (IRow V3 O ol (fun i => if i < k then fenTo own others (i + 1) else 0)) := World.rowIs.of_block HQV.out.out (hoth O HQV.out.ne)
              have HB3 : Hid (Below w.heap.size w V3) := by rw [Hid, hV3]; exact HBV2.out.setCell (p := ⟨w.heap.size, a, none⟩) (by simp) _
              have HTK := hide (take_some w.heap.size a qb qo ql qc Z (tl : Int) V (by omega) hqc (by have := HXL.out; omega) p1 p2 hx0)
              have HV3 := hide hV3
              clear hcl hx0 hZ hoth hV3
              go_wp2_with fail
              refine HTK.out.mono ?_
              rintro r w2 ⟨rfl, hw2⟩
              rw [← HV3.out] at hw2
              obtain rfl := hw2.symm
              have d0 := HOX.out.cell hkl
              have y0 := HOX.out.frozen k
              have zo := HOX.out.lt
              by_cases hxy : X < Z
              · have HF2 : Hid (fenTo own others (k + 1) = Z) := by rw [Hid, HF.out, HYE.out]; omega
                have hN := HQV.out.put hkl HBX.out HQN.out HOX.out
                rw [HF2.out] at hN
                have HN := hide hN
                have HNB := hide (HB3.out.setCell (p := ⟨O, k, none⟩) HON.out (.int .i64 Z))
                clear hN p1 p2 pz
                go_wp2_with fail
                go_roundw
                case rel => exact ⟨k + 1, by omega, by go_num, by rw [HF2.out], ⟨_, HN.out⟩, HNB.out⟩
                case measure => simp [intOf]; omega
              · have HF2 : Hid (fenTo own others (k + 1) = X) := by rw [Hid, HF.out, HYE.out]; omega
                have hN := HQV.out.put hkl HBX.out HQN.out HOX.out
                rw [HF2.out] at hN
                have HN := hide hN
                have HNB := hide (HB3.out.setCell (p := ⟨O, k, none⟩) HON.out (.int .i64 X))
                clear hN p1 p2 pz
                go_wp2_with fail
                go_roundw
                case rel => exact ⟨k + 1, by omega, by go_num, by rw [HF2.out], ⟨_, HN.out⟩, HNB.out⟩
                case measure => simp [intOf]; omega
          · have q4 : (x.d == 4) = false := by simpa using e4
            have HF : Hid (fenTo own others (k + 1) = X) := by rw [Hid, fenTo, if_neg (by rw [HGX.out]; exact e4)]; exact HX.out.symm
            have HQN : Hid (∀ s, s < 16 → QV V w.heap.size O (P s) ((postsTo others (s : Int) others.length).drop (waitsTo own (s : Int) (k + 1)))) := fun s hs => by
              rw [waits_same (by rw [HGX.out]; simp [waitB, e4])]
              exact HQV.out.qs s hs
            have hN := HQV.out.put hkl HQV.out.box HQN.out HQV.out.out
            rw [HF.out] at hN
            have d0 := HQV.out.out.cell hkl
            have y0 := HQV.out.out.frozen k
            have zo := HQV.out.out.lt
            have HN := hide hN
            have HNB := hide (HBV2.out.setCell (p := ⟨O, k, none⟩) HON.out (.int .i64 X))
            clear e4 hxm hN
            go_wp2_with fail
            go_roundw
            case rel => exact ⟨k + 1, by omega, by go_num, by rw [HF.out], ⟨P, HN.out⟩, HNB.out⟩
            case measure => simp [intOf]; omega
        · have hkz : ¬ (k : Int) < (ol : Int) := by omega
          obtain rfl : ol = k := by omega
          have HFR : Hid (IRow wr O ol (fun i => fenTo own others (i + 1))) := hqi.out.congr fun i hi => by rw [if_pos hi]
          have HFB := hide hbv
          clear hqi hbv
          go_wp2_with fail
          go_ret
          exact ⟨⟨O, rfl, HON.out, HFR.out⟩, HFB.out⟩
end Go.Proofs.YtoabffmiedbkkaaGreat.V
