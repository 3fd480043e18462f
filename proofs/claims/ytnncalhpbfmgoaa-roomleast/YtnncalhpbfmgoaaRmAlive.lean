/-
  The law's own closed fact; lives in a row of the call's own.
-/
import Derived.Test.YtnncalhpbfmgoaaRmLoadP
import Derived.Test.YtnncalhpbfmgoaaRmLay
namespace Go.Proofs.Ytnncalhpbfmgoaa.V
open Go Go.Shelf Go.RowKit Go.Lib Go.Sort Go.Proofs
set_option linter.unusedVariables false

theorem alive12_ok (w : World) : Calls Try.prog 19 #[] w fun e w' => e = .returned (.bool true) ∧ Below w.heap.size w w' := by
  have hb := bl_new (w := w) (.cells #[.int .i64 0, .int .i64 1, .int .i64 5] 37)
  have hL : Lives (w.alloc (.cells #[.int .i64 0, .int .i64 1, .int .i64 5] 37)) (some ⟨w.heap.size, 0, none⟩) 1 [⟨0, 1, 5⟩] := by
    refine ⟨rfl, by omega, .inr ⟨w.heap.size, 0, rfl, fun j hj => ?_⟩⟩
    obtain rfl : j = 0 := by omega
    refine ⟨?_, ?_, ?_⟩ <;> simp
  have H := load_any (some ⟨w.heap.size, 0, none⟩) 1 1 [⟨0, 1, 5⟩] _ hL
  have e1 : livesE [⟨0, 1, 5⟩] = 0 := by decide
  have e2 : loadV [⟨0, 1, 5⟩] = 5 := by decide
  rw [e1, if_pos rfl, e2] at H
  have HH := hide H
  have HB := hide hb
  clear H hb hL e1 e2
  go_enter Try.func19, Try.ntmps19
  go_wp2_with (go_at_call 8; refine HH.out.mono ?_; rintro e w1 ⟨rfl, hb1⟩; have HB1 := hide (bl_on HB.out hb1); clear hb1)
  go_ret
  exact ⟨rfl, HB1.out⟩
theorem info_F : (Try.prog.info? 37).map (fun i => (i.zero, i.size, i.bytes)) = some (some (.agg #[.int .i64 0, .int .i64 0, .int .i64 0]), 3, 24) := by kernel_rfl
def l3 (x : Lf) : List Value := [.int .i64 x.fr, .int .i64 x.to, .int .i64 x.wd]
theorem flat3_len : ∀ us : List Lf, (us.flatMap l3).length = us.length * 3
  | [] => rfl
  | u :: us => by rw [List.flatMap_cons, List.length_append, flat3_len us, List.length_cons]; simp [l3]; omega
theorem flat3_get : ∀ (us : List Lf) (j i : Nat), j < us.length → i < 3 → (us.flatMap l3)[j * 3 + i]? = (l3 (us[j]?.getD lfD))[i]?
  | [], j, i, h, _ => by simp at h
  | u :: us, 0, i, h, hi => by
    rw [List.flatMap_cons, List.getElem?_append_left (by simp [l3]; omega)]
    simp
  | u :: us, j + 1, i, h, hi => by
    have := flat3_get us j i (by simpa using h) hi
    rw [List.flatMap_cons]
    have e1 : (j + 1) * 3 + i = (l3 u).length + (j * 3 + i) := by simp [l3]; omega
    rw [e1, List.getElem?_append_right (by omega), Nat.add_sub_cancel_left]
    simpa using this
/-- Lives in a row of the call's own. -/
def OutF (W : World) (B : Nat) (v : Value) (L : List Lf) : Prop := W.ownsRow B 37 3 v L.length (L.flatMap l3)
theorem OutF.lt {W : World} {B : Nat} {v : Value} {L : List Lf} (h : OutF W B v L) : ∀ g, v.ownBlock = some g → B ≤ g ∧ g < W.heap.size := fun g e => by
  rcases h.2 with ⟨rfl, _⟩ | ⟨g', cap, cur, rfl, e2, e3, e4⟩
  · simp [Value.ownBlock] at e
  · obtain rfl : g' = g := by simpa [Value.ownBlock] using e
    exact ⟨e2, (Array.getElem?_eq_some_iff.1 e3).1⟩
theorem OutF.below {W V : World} {B : Nat} {v : Value} {L : List Lf} (h : OutF W B v L) (hb : Below W.heap.size W V) : OutF V B v L := by
  have hl := h.lt
  refine ⟨h.1, ?_⟩
  rcases h.2 with h1 | ⟨g, cap, cur, rfl, e2, e3, e4⟩
  · exact .inl h1
  · exact .inr ⟨g, cap, cur, rfl, e2, (hb.block g (hl g rfl).2).trans e3, e4⟩
theorem OutF.lives {W : World} {B : Nat} {v : Value} {L : List Lf} (h : OutF W B v L) : ∃ A c, v = .slice A L.length c ∧ Lives W A L.length L := by
  rcases h.2 with ⟨h1, h2⟩ | ⟨g, cap, cur, rfl, e2, e3, e4, e5, e6, e7⟩
  · have : L = [] := List.length_eq_zero_iff.1 h2
    subst this
    exact ⟨none, 0, h1, Lives.nil W⟩
  · refine ⟨_, cap, rfl, rfl, by unfold maxLen at e5; omega, .inr ⟨g, 0, rfl, fun j hj => ?_⟩⟩
    have f0 := flat3_get L j 0 hj (by omega)
    have f1 := flat3_get L j 1 hj (by omega)
    have f2 := flat3_get L j 2 hj (by omega)
    rw [← e7, List.getElem?_take_of_lt (by omega)] at f0 f1 f2
    simp only [World.cell?, e3, Nat.zero_add]
    refine ⟨by simpa [l3] using f0, by simpa [l3] using f1, by simpa [l3] using f2⟩
theorem append_f {w : World} {ops : Array Oper} {rest : List Oper} {op : Oper} {a : Act} {Q : Exit → Act → World → Prop} (hgd : op.guard = none) (s x : Operand)
    (ho : op.op = .call { callee := .builtin .append, args := #[s, x], argTypes := #[22, 22] }) (B : Nat) (v : Value) (hs : a.eval s = v) (L : List Lf) (q : Lf) (hout : OutF w B v L)
    (hx : a.eval x = .slice (some ⟨w.heap.size, 0, none⟩) 1 1) (hbytes : (L.length + 1) * 24 ≤ 140737488355328) (hB : B ≤ w.heap.size)
    (h : ∀ v' w', OutF w' B v' (L ++ [q]) → Below B w w' → wpList Try.prog ops Q rest (a.put op.dst v') w') :
    wpList Try.prog ops Q (op :: rest) a (w.alloc (.cells #[.int .i64 q.fr, .int .i64 q.to, .int .i64 q.wd] 37)) := by
  obtain ⟨i0, hi, hz0, hz1, hz2⟩ := info_parts info_F
  have hlt := hout.lt
  have h2' := World.ownsRow.alloc (o := .cells #[.int .i64 q.fr, .int .i64 q.to, .int .i64 q.wd] 37) hout
  refine wpList_append_own _ hgd s x 22 ho B 37 i0 (.agg #[.int .i64 0, .int .i64 0, .int .i64 0]) 3 24 Try.underlying22 hi hz0 hz1 hz2 rfl (by decide) v L.length (L.flatMap l3) hs h2' ⟨w.heap.size, 0, none⟩ 1 1 (l3 q) hx rfl ?_ ?_ (by unfold maxLen; omega) hbytes (by simp; omega) (fun v' w' k1 k2 k3 => ?_)
  · intro j y hj
    rw [Go.WideShapes.add_plain]
    unfold World.cell?
    rw [World.alloc_heap_new w (.cells #[.int .i64 q.fr, .int .i64 q.to, .int .i64 q.wd] 37)]
    rw [Nat.zero_add, ← hj]
    simp [l3]
  · intro y hy
    simp [l3] at hy
    rcases hy with rfl | rfl | rfl <;> rfl
  · refine h v' w' ?_ (((Below.refl B w).alloc hB _).grown k2 (by simp; omega) (fun j e => (hlt j e).1))
    unfold OutF
    rw [List.length_append, List.flatMap_append]
    simpa using k1
end Go.Proofs.Ytnncalhpbfmgoaa.V
