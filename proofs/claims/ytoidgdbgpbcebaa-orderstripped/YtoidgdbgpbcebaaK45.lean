/-
  Orders: what Strip tells; strips change nothing. The cells of rows.
-/
import Derived.Test.YtoidgdbgpbcebaaK44
import Derived.Test.YtoidgdbgpbcebaaK11
import Derived.Test.YtoidgdbgpbcebaaK10
namespace Go.Proofs.Ytoidgdbgpbcebaa.V
open Go.RowKit
set_option linter.unusedVariables false

/-- How many strips of a size it takes. -/
def ceilN (b n : Nat) : Nat := (b + n - 1) / n
theorem ceilN_ge (b n : Nat) (h : 0 < n) : b ≤ ceilN b n * n := by
  unfold ceilN
  have h1 := Nat.div_add_mod (b + n - 1) n
  have h2 := Nat.mod_lt (b + n - 1) h
  rw [Nat.mul_comm] at h1
  omega
/-- The statement in strips. -/
def stripS (s : Stm) (k n : Nat) : Stm :=
  ⟨s.box.take k ++ (ceilN (s.box[k]?.getD 0).toNat n : Int) :: (n : Int) :: s.box.drop (k + 1), s.rows.map (stripR k n) ++ [lastR (s.box.take k) (s.box.drop (k + 1)) (s.box[k]?.getD 0) n], s.kind, s.val, stripA k n s.put, s.gets.map (stripA k n)⟩
/-- What is wrong with what is to be stripped. -/
def stripE (zs : List Int) (ss : List Stm) (i k n : Int) : Int :=
  if nestE zs ss ≠ 0 then nestE zs ss
  else if i < 0 ∨ (ss.length : Int) ≤ i then 4
  else if k < 0 ∨ ((ss[i.toNat]?.getD stmD).box.length : Int) ≤ k then 6
  else if n < 1 ∨ 4096 < n then 4
  else nestE zs (ss.set i.toNat (stripS (ss[i.toNat]?.getD stmD) k.toNat n.toNat))
structure StripOk (zs : List Int) (ss : List Stm) (i k n : Int) : Prop where
  nest : nestE zs ss = 0
  stm : 0 ≤ i ∧ i < (ss.length : Int)
  num : 0 ≤ k ∧ k < ((ss[i.toNat]?.getD stmD).box.length : Int)
  size : 1 ≤ n ∧ n ≤ 4096
  new : nestE zs (ss.set i.toNat (stripS (ss[i.toNat]?.getD stmD) k.toNat n.toNat)) = 0
theorem stripE_ok {zs : List Int} {ss : List Stm} {i k n : Int} (h : stripE zs ss i k n = 0) : StripOk zs ss i k n := by
  unfold stripE at h
  by_cases h1 : nestE zs ss ≠ 0
  · rw [if_pos h1] at h; exact absurd h h1
  rw [if_neg h1] at h
  by_cases h2 : i < 0 ∨ (ss.length : Int) ≤ i
  · rw [if_pos h2] at h; omega
  rw [if_neg h2] at h
  by_cases h3 : k < 0 ∨ ((ss[i.toNat]?.getD stmD).box.length : Int) ≤ k
  · rw [if_pos h3] at h; omega
  rw [if_neg h3] at h
  by_cases h4 : n < 1 ∨ 4096 < n
  · rw [if_pos h4] at h; omega
  rw [if_neg h4] at h
  exact ⟨by simpa using h1, by omega, by omega, by omega, h⟩
theorem strip_same {n : Nat} {s : Stm} {l : Nat} (ho : StmOk l s) {k : Nat} (hk : k < s.box.length) (hn : 0 < n) (M : Mem) : stmM M (stripS s k n) = stmM M s := by
  have hp := ptE_ok ho.pt
  have hb0 := (hp.dims (s.box[k]?.getD 0) (by simp [hk])).1
  have hsb : s.box = s.box.take k ++ ((s.box[k]?.getD 0).toNat : Int) :: s.box.drop (k + 1) := by
    have e : ((s.box[k]?.getD 0).toNat : Int) = s.box[k] := by rw [Int.toNat_of_nonneg hb0]; simp [hk]
    rw [e]
    simp
  have hlt : (s.box.take k).length = k := by rw [List.length_take]; omega
  have e2 : ((s.box[k]?.getD 0).toNat : Int) = s.box[k]?.getD 0 := Int.toNat_of_nonneg hb0
  refine strip_stm s (stripS s k n) (s.box.take k) (s.box.drop (k + 1)) (ceilN (s.box[k]?.getD 0).toNat n) (s.box[k]?.getD 0).toNat n hn (ceilN_ge _ _ hn) (fun x hx => (hp.dims x (List.mem_of_mem_take hx)).1) (fun x hx => (hp.dims x (List.mem_of_mem_drop hx)).1) hsb rfl (fun r hr => (hp.rows r hr).1) ?_ rfl rfl ho.put.len ?_ (fun g hg => (ho.gets g hg).len) ?_ M
  · rw [hlt, e2]; rfl
  · rw [hlt]; rfl
  · rw [hlt]; rfl
theorem runM_set (ss : List Stm) (i : Nat) (t : Stm) (hi : i < ss.length) (h : ∀ M, stmM M t = stmM M (ss[i]?.getD stmD)) (L : Mem) : runM (ss.set i t) L = runM ss L := by
  have e1 : ss = ss.take i ++ (ss[i]?.getD stmD) :: ss.drop (i + 1) := by simp [hi]
  have e2 : ss.set i t = ss.take i ++ t :: ss.drop (i + 1) := by rw [List.set_eq_take_append_cons_drop, if_pos hi]
  rw [e2]
  conv => rhs; rw [e1]
  unfold runM
  rw [List.foldl_append, List.foldl_append, List.foldl_cons, List.foldl_cons, h]
/-- STRIPS CHANGE NOTHING. -/
theorem strip_run {zs : List Int} {ss : List Stm} {i k n : Int} (h : StripOk zs ss i k n) (L : Mem) : runM (ss.set i.toNat (stripS (ss[i.toNat]?.getD stmD) k.toNat n.toNat)) L = runM ss L ∧ runE zs (ss.set i.toNat (stripS (ss[i.toNat]?.getD stmD) k.toNat n.toNat)) L = runE zs ss L := by
  have h1 := h.stm
  have h2 := h.num
  have h3 := h.size
  have hi : i.toNat < ss.length := by omega
  refine ⟨runM_set ss _ _ hi (fun M => strip_same ((nestE_ok h.nest).stms _ (mem_getS ss _ hi)) (by omega) (by omega) M) L, ?_⟩
  unfold runE
  rw [if_neg (by simpa using h.new), if_neg (by simpa using h.nest)]
end Go.Proofs.Ytoidgdbgpbcebaa.V
namespace Go.Proofs.Ytoidgdbgpbcebaa.V
open Go.RowKit
set_option linter.unusedVariables false

/-- The cells of rows. -/
def rowCs (us : Nat → RW) (l : Nat) : List Value := (List.range (l * 2)).map fun i => if i % 2 = 0 then .slice (us (i / 2)).ca (us (i / 2)).cl (us (i / 2)).cc else .int .i64 (us (i / 2)).con
theorem rowCs_len (us : Nat → RW) (l : Nat) : (rowCs us l).length = l * 2 := by simp [rowCs]
theorem rowCs_at (us : Nat → RW) (l j : Nat) (hj : j < l) : (rowCs us l)[j * 2]? = some (.slice (us j).ca (us j).cl (us j).cc) ∧ (rowCs us l)[j * 2 + 1]? = some (.int .i64 (us j).con) := by
  have e1 : j * 2 / 2 = j := by omega
  have e2 : (j * 2 + 1) / 2 = j := by omega
  have e3 : (j * 2 + 1) % 2 = 1 := by omega
  have h1 : j * 2 < l * 2 := by omega
  have h2 : j * 2 + 1 < l * 2 := by omega
  constructor
  · simp [rowCs, h1, e1]
  · simp [rowCs, h2, e2, e3]
end Go.Proofs.Ytoidgdbgpbcebaa.V
