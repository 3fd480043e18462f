/-
  Several rows of the call's own, no two in one block.
-/
import Derived.Test.YtnncalhpbfmgoaaRmClimb
namespace Go.Proofs.Ytnncalhpbfmgoaa.V
open Go.RowKit
set_option linter.unusedVariables false

def updF {α : Type} (f : Nat → α) (k : Nat) (x : α) : Nat → α := fun i => if i = k then x else f i
theorem updF_ne {α : Type} {f : Nat → α} {k i : Nat} {x : α} (h : i ≠ k) : updF f k x i = f i := if_neg h
structure Fam (w : World) (B n : Nat) (v : Nat → Value) (t : Nat → TypeId) (c : Nat → List Value) : Prop where
  row : ∀ i, i < n → w.ownsRow B (t i) 1 (v i) (c i).length (c i)
  apart : ∀ i j g, i < n → j < n → (v i).ownBlock = some g → (v j).ownBlock = some g → i = j
theorem own_keep {w w1 : World} {B n : Nat} {t : TypeId} {v : Value} {xs : List Value} (h : w.ownsRow B t 1 v n xs) (hk : ∀ g, v.ownBlock = some g → g < w.heap.size → w1.heap[g]? = w.heap[g]?) : w1.ownsRow B t 1 v n xs := by
  refine ⟨h.1, ?_⟩
  rcases h.2 with h2 | ⟨g, cap, cur, rfl, h4, h5, h6⟩
  · exact .inl h2
  · exact .inr ⟨g, cap, cur, rfl, h4, (hk g rfl (Array.getElem?_eq_some_iff.1 h5).1).trans h5, h6⟩
theorem own_lt {w : World} {B n g : Nat} {t : TypeId} {v : Value} {xs : List Value} (h : w.ownsRow B t 1 v n xs) (e : v.ownBlock = some g) : B ≤ g ∧ g < w.heap.size := by
  rcases h.2 with ⟨rfl, _⟩ | ⟨g', cap, cur, rfl, h4, h5, h6⟩
  · cases e
  · cases e
    exact ⟨h4, (Array.getElem?_eq_some_iff.1 h5).1⟩
theorem Fam.below {w w1 : World} {B n : Nat} {v : Nat → Value} {t : Nat → TypeId} {c : Nat → List Value} (h : Fam w B n v t c) (hb : Below w.heap.size w w1) : Fam w1 B n v t c :=
  ⟨fun i hi => own_keep (h.row i hi) fun g _ hg => hb.block g hg, h.apart⟩
theorem Fam.put {w w1 : World} {B n k : Nat} {v : Nat → Value} {t : Nat → TypeId} {c : Nat → List Value} {v' : Value} {c' : List Value} (h : Fam w B n v t c) (hk : k < n) (hg : w.grownBy w1 (v k).ownBlock) (hr : w1.ownsRow B (t k) 1 v' c'.length c') (ho : v'.ownBlock = (v k).ownBlock ∨ ∀ g, v'.ownBlock = some g → w.heap.size ≤ g) : Fam w1 B n (updF v k v') t (updF c k c') := by
  have key : ∀ j g, j < n → j ≠ k → v'.ownBlock = some g → (v j).ownBlock = some g → False := fun j g hj hne e1 e2 => by
    rcases ho with ho | ho
    · exact hne (h.apart j k g hj hk e2 (ho ▸ e1))
    · have := ho g e1
      have := (own_lt (h.row j hj) e2).2
      omega
  refine ⟨fun i hi => ?_, fun i j g hi hj e1 e2 => ?_⟩
  · by_cases e : i = k
    · subst e
      simp only [updF, if_true]
      exact hr
    · simp only [updF, if_neg e]
      exact own_keep (h.row i hi) fun g hgg hlt => hg.block g hlt fun ee => e (h.apart i k g hi hk hgg ee.symm)
  · by_cases c1 : i = k
    · by_cases c2 : j = k
      · rw [c1, c2]
      · simp only [updF, if_pos c1, if_neg c2] at e1 e2
        exact (key j g hj c2 e1 e2).elim
    · by_cases c2 : j = k
      · simp only [updF, if_pos c2, if_neg c1] at e1 e2
        exact (key i g hi c1 e2 e1).elim
      · simp only [updF, if_neg c1, if_neg c2] at e1 e2
        exact h.apart i j g hi hj e1 e2
theorem Fam.add {w : World} {B n N : Nat} {v : Nat → Value} {t : Nat → TypeId} {c : Nat → List Value} {u : Value} {tu : TypeId} {cu : List Value} (h : Fam w B n v t c) (hN : ∀ i g, i < n → (v i).ownBlock = some g → g < N) (hr : w.ownsRow B tu 1 u cu.length cu) (hf : ∀ g, u.ownBlock = some g → N ≤ g) : Fam w B (n + 1) (updF v n u) (updF t n tu) (updF c n cu) := by
  refine ⟨fun i hi => ?_, fun i j g hi hj e1 e2 => ?_⟩
  · by_cases e : i = n
    · subst e
      simp only [updF, if_true]
      exact hr
    · simp only [updF, if_neg e]
      exact h.row i (by omega)
  · by_cases c1 : i = n
    · by_cases c2 : j = n
      · rw [c1, c2]
      · simp only [updF, if_pos c1, if_neg c2] at e1 e2
        have := hN j g (by omega) e2
        have := hf g e1
        omega
    · by_cases c2 : j = n
      · simp only [updF, if_pos c2, if_neg c1] at e1 e2
        have := hN i g (by omega) e1
        have := hf g e2
        omega
      · simp only [updF, if_neg c1, if_neg c2] at e1 e2
        exact h.apart i j g (by omega) (by omega) e1 e2
theorem Fam.congr {w : World} {B n : Nat} {v v' : Nat → Value} {t t' : Nat → TypeId} {c c' : Nat → List Value} (h : Fam w B n v t c) (hv : ∀ i, i < n → v' i = v i) (ht : ∀ i, i < n → t' i = t i) (hc : ∀ i, i < n → c' i = c i) : Fam w B n v' t' c' :=
  ⟨fun i hi => by rw [hv i hi, ht i hi, hc i hi]; exact h.row i hi, fun i j g hi hj e1 e2 => h.apart i j g hi hj (hv i hi ▸ e1) (hv j hj ▸ e2)⟩
/-- append(row, thing), at the operation: the thing lies in the newest block. -/
theorem append_fam {w : World} {ops : Array Oper} {rest : List Oper} {op : Oper} {a : Act} {Q : Exit → Act → World → Prop} (hgd : op.guard = none) (s x : Operand) (sl e : TypeId) (z : Value) (bytes : Nat)
    (ho : op.op = .call { callee := .builtin .append, args := #[s, x], argTypes := #[sl, sl] }) (hul : Try.prog.underlying sl = some (.slice e)) (hinf : (Try.prog.info? e).map (fun i => (i.zero, i.size, i.bytes)) = some (some z, 1, bytes)) (hzs : z.cells.size = 1) (hby : bytes ≤ 24)
    (B n : Nat) (v : Nat → Value) (t : Nat → TypeId) (c : Nat → List Value) (F : Fam w B n v t c) (k : Nat) (hk : k < n) (ht : t k = e) (vk : Value) (hvk : v k = vk) (hs : a.eval s = vk) (ck : List Value) (hck : c k = ck) (u : Value) (hu : u.oneCell' = true)
    (hx : a.eval x = .slice (some ⟨w.heap.size, 0, none⟩) 1 1) (hl : ck.length ≤ 65536) (hB : B ≤ w.heap.size)
    (h : ∀ v' w', Fam w' B n (updF v k v') t (updF c k (ck ++ [u])) → Below B w w' → wpList Try.prog ops Q rest (a.put op.dst v') w') :
    wpList Try.prog ops Q (op :: rest) a (w.alloc (.cells #[u] e)) := by
  obtain ⟨i0, hi, hz0, hz1, hz2⟩ := info_parts hinf
  subst hvk
  subst hck
  have F2 := F.below (bl_new (.cells #[u] e))
  have hown := F2.row k hk
  rw [ht] at hown
  have hsz : (w.alloc (.cells #[u] e)).heap.size = w.heap.size + 1 := by simp
  obtain ⟨v', w', hrun, q2, q3, _, q5⟩ := run_append_own_at (P := Try.prog) (w.alloc (.cells #[u] e)) B sl op.type e i0 z 1 bytes hul hi hz0 hz1 hz2 hzs (by decide) (v k) (c k).length (c k) hown ⟨w.heap.size, 0, none⟩ 1 1 [u] rfl (fun j y hj => by
    match j, hj with
    | 0, hj =>
      simp at hj
      subst hj
      rw [Go.WideShapes.add_plain]
      show (w.alloc (.cells #[u] e)).cell? ⟨w.heap.size, 0 + 0, none⟩ = _
      unfold World.cell?
      rw [World.alloc_heap_new w (.cells #[u] e)]
      rfl) (by simpa using hu) (by unfold maxLen; omega) (Nat.le_trans (Nat.mul_le_mul_left _ hby) (by omega)) (by rw [hsz]; omega)
  refine wpList_plain hgd fun K hK => ?_
  unfold Oper.wp execOp
  simp only [ho, resolve, invoke, builtin, Sem.run_bind, Sem.run_pure, Result.andThen_ok, List.map_toArray, List.map_cons, List.map_nil, hs, hx, hrun]
  refine hK _ _ (h v' w' (F2.put hk q3 (by rw [ht, List.length_append]; exact q2) ?_) ?_)
  · rcases q5 with q5 | q5
    · exact .inl q5
    · refine .inr fun g hg => ?_
      rw [q5] at hg
      cases hg
      exact Nat.le_refl _
  · exact ((Below.refl B w).alloc hB _).grown q3 (by rw [hsz]; omega) (fun j e => (own_lt hown e).1)
/-- A row's own cell. -/
theorem Fam.cell {w : World} {B n : Nat} {v : Nat → Value} {t : Nat → TypeId} {c : Nat → List Value} (h : Fam w B n v t c) {k j : Nat} (hk : k < n) (hj : j < (c k).length) : ∃ g cap, v k = .slice (some ⟨g, 0, none⟩) (c k).length cap ∧ B ≤ g ∧ g < w.heap.size ∧ (c k).length ≤ cap ∧ ∀ j, j < (c k).length → w.cell? ⟨g, j, none⟩ = (c k)[j]? := by
  have hr := h.row k hk
  rcases hr.2 with ⟨_, h2⟩ | ⟨g, cap, cur, e1, e2, e3, e4, e5, e6, e7⟩
  · omega
  · refine ⟨g, cap, e1, e2, (Array.getElem?_eq_some_iff.1 e3).1, e4, fun j hj => ?_⟩
    have h8 : (cur.toList.take ((c k).length * 1))[j]? = (c k)[j]? := by rw [e7]
    rw [List.getElem?_take_of_lt (by omega), Array.getElem?_toList] at h8
    simp [World.cell?, e3, h8]
theorem Fam.slice {w : World} {B n : Nat} {v : Nat → Value} {t : Nat → TypeId} {c : Nat → List Value} (h : Fam w B n v t c) {k : Nat} (hk : k < n) : ∃ a cap, v k = .slice a (c k).length cap := by
  have hr := h.row k hk
  rcases hr.2 with ⟨h1, h2⟩ | ⟨g, cap, cur, e1, e2⟩
  · exact ⟨none, 0, by rw [h1, h2]⟩
  · exact ⟨_, cap, e1⟩
end Go.Proofs.Ytnncalhpbfmgoaa.V
