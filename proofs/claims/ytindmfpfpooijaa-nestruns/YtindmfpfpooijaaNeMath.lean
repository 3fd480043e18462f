/-
  Nests: the mathematics of chapter 10: what is wrong with one, what a statement does.
-/
import Derived.Test.YtindmfpfpooijaaPtRow
namespace Go.Proofs.Ytindmfpfpooijaa.V
open Go.RowKit
set_option linter.unusedVariables false

/-- An access: the array, the row. -/
abbrev Acc := Int × (List Int × Int)
structure Stm where
  box : List Int
  rows : List (List Int × Int)
  kind : Int
  val : Int
  put : Acc
  gets : List Acc
def accD : Acc := (0, ([], 0))
def stmD : Stm := ⟨[], [], 0, 0, accD, []⟩
def takesV (k : Int) : Int := if k = 1 then 0 else if k = 2 ∨ k = 9 then 1 else if (3 ≤ k ∧ k ≤ 7) ∨ k = 10 then 2 else if k = 8 then 3 else -1
theorem kind_cases (k : Int) : k = 1 ∨ k = 2 ∨ k = 3 ∨ k = 4 ∨ k = 5 ∨ k = 6 ∨ k = 7 ∨ k = 8 ∨ k = 9 ∨ k = 10 ∨ (k ≠ 1 ∧ k ≠ 2 ∧ k ≠ 3 ∧ k ≠ 4 ∧ k ≠ 5 ∧ k ≠ 6 ∧ k ≠ 7 ∧ k ≠ 8 ∧ k ≠ 9 ∧ k ≠ 10) := by omega
theorem takes_none {k : Int} (h : k ≠ 1 ∧ k ≠ 2 ∧ k ≠ 3 ∧ k ≠ 4 ∧ k ≠ 5 ∧ k ≠ 6 ∧ k ≠ 7 ∧ k ≠ 8 ∧ k ≠ 9 ∧ k ≠ 10) : takesV k = -1 := by
  unfold takesV
  rw [if_neg (by omega), if_neg (by omega), if_neg (by omega), if_neg (by omega)]
theorem takes_bd (k : Int) : -1 ≤ takesV k ∧ takesV k ≤ 3 := by
  unfold takesV
  split
  · omega
  · split
    · omega
    · split
      · omega
      · split <;> omega
/-- What is wrong with an access. -/
def accE (n : Nat) (a : Acc) (vars : Nat) : Int := if a.1 < 0 ∨ (n : Int) ≤ a.1 then 4 else rowE a.2 vars
/-- What is wrong with the first access that is not right. -/
def accsE (n : Nat) : List Acc → Nat → Int
  | [], _ => 0
  | a :: az, vars => if accE n a vars ≠ 0 then accE n a vars else accsE n az vars
/-- What is wrong with a statement. -/
def stmE (n : Nat) (s : Stm) : Int :=
  if ptE s.box s.rows ≠ 0 then ptE s.box s.rows
  else if takesV s.kind < 0 then 1
  else if takesV s.kind ≠ (s.gets.length : Int) then 2
  else if accE n s.put s.box.length ≠ 0 then accE n s.put s.box.length
  else accsE n s.gets s.box.length
def stmsE (n : Nat) : List Stm → Int
  | [] => 0
  | s :: ss => if stmE n s ≠ 0 then stmE n s else stmsE n ss
def badSize (x : Int) : Bool := decide (x < 0) || decide (65536 < x)
/-- What is wrong with a nest. -/
def nestE (zs : List Int) (ss : List Stm) : Int := if 256 < ss.length then 2 else if zs.any badSize = true then 4 else stmsE zs.length ss

/-- Of the first that is not right: by steps. -/
theorem accsE_take (n : Nat) (az : List Acc) (vars : Nat) : ∀ k, k < az.length → accsE n (az.take k) vars = 0 → accE n (az[k]?.getD accD) vars = 0 → accsE n (az.take (k + 1)) vars = 0 := by
  induction az with
  | nil => intro k h; simp at h
  | cons r rs ih =>
    intro k h1 h2 h3
    cases k with
    | zero => simp only [List.getElem?_cons_zero, Option.getD_some] at h3; simp [accsE, h3]
    | succ k =>
      simp only [List.take_succ_cons, accsE] at h2 ⊢
      by_cases hr : accE n r vars ≠ 0
      · rw [if_pos hr] at h2; exact absurd h2 hr
      · rw [if_neg hr] at h2 ⊢
        exact ih k (by simpa using h1) h2 (by simpa using h3)
theorem accsE_here (n : Nat) (az : List Acc) (vars : Nat) : ∀ k, k < az.length → accsE n (az.take k) vars = 0 → accE n (az[k]?.getD accD) vars ≠ 0 → accsE n az vars = accE n (az[k]?.getD accD) vars := by
  induction az with
  | nil => intro k h; simp at h
  | cons r rs ih =>
    intro k h1 h2 h3
    cases k with
    | zero => simp only [List.getElem?_cons_zero, Option.getD_some] at h3 ⊢; simp [accsE, h3]
    | succ k =>
      simp only [List.take_succ_cons, accsE] at h2 ⊢
      by_cases hr : accE n r vars ≠ 0
      · rw [if_pos hr] at h2; exact absurd h2 hr
      · rw [if_neg hr] at h2 ⊢
        simpa using ih k (by simpa using h1) h2 (by simpa using h3)
theorem stmsE_take (n : Nat) (ss : List Stm) : ∀ k, k < ss.length → stmsE n (ss.take k) = 0 → stmE n (ss[k]?.getD stmD) = 0 → stmsE n (ss.take (k + 1)) = 0 := by
  induction ss with
  | nil => intro k h; simp at h
  | cons r rs ih =>
    intro k h1 h2 h3
    cases k with
    | zero => simp only [List.getElem?_cons_zero, Option.getD_some] at h3; simp [stmsE, h3]
    | succ k =>
      simp only [List.take_succ_cons, stmsE] at h2 ⊢
      by_cases hr : stmE n r ≠ 0
      · rw [if_pos hr] at h2; exact absurd h2 hr
      · rw [if_neg hr] at h2 ⊢
        exact ih k (by simpa using h1) h2 (by simpa using h3)
theorem stmsE_here (n : Nat) (ss : List Stm) : ∀ k, k < ss.length → stmsE n (ss.take k) = 0 → stmE n (ss[k]?.getD stmD) ≠ 0 → stmsE n ss = stmE n (ss[k]?.getD stmD) := by
  induction ss with
  | nil => intro k h; simp at h
  | cons r rs ih =>
    intro k h1 h2 h3
    cases k with
    | zero => simp only [List.getElem?_cons_zero, Option.getD_some] at h3 ⊢; simp [stmsE, h3]
    | succ k =>
      simp only [List.take_succ_cons, stmsE] at h2 ⊢
      by_cases hr : stmE n r ≠ 0
      · rw [if_pos hr] at h2; exact absurd h2 hr
      · rw [if_neg hr] at h2 ⊢
        simpa using ih k (by simpa using h1) h2 (by simpa using h3)
theorem accsE_ok {n : Nat} : ∀ {az : List Acc} {vars : Nat}, accsE n az vars = 0 → ∀ a ∈ az, accE n a vars = 0
  | [], _, _, a, ha => by simp at ha
  | q :: rs, vars, h, r, hr => by
    simp only [accsE] at h
    by_cases h1 : accE n q vars ≠ 0
    · rw [if_pos h1] at h; exact absurd h h1
    · rw [if_neg h1] at h
      rcases List.mem_cons.1 hr with rfl | hr
      · simpa using h1
      · exact accsE_ok h r hr
theorem stmsE_ok {n : Nat} : ∀ {ss : List Stm}, stmsE n ss = 0 → ∀ s ∈ ss, stmE n s = 0
  | [], _, a, ha => by simp at ha
  | q :: rs, h, r, hr => by
    simp only [stmsE] at h
    by_cases h1 : stmE n q ≠ 0
    · rw [if_pos h1] at h; exact absurd h h1
    · rw [if_neg h1] at h
      rcases List.mem_cons.1 hr with rfl | hr
      · simpa using h1
      · exact stmsE_ok h r hr
/-- A right access. -/
structure AccOk (n : Nat) (a : Acc) (vars : Nat) : Prop where
  arr : 0 ≤ a.1 ∧ a.1 < (n : Int)
  len : a.2.1.length = vars
  con : -1048576 ≤ a.2.2 ∧ a.2.2 ≤ 1048576
  coef : ∀ c ∈ a.2.1, -1048576 ≤ c ∧ c ≤ 1048576
theorem accE_ok {n : Nat} {a : Acc} {vars : Nat} (h : accE n a vars = 0) : AccOk n a vars := by
  unfold accE at h
  by_cases h1 : a.1 < 0 ∨ (n : Int) ≤ a.1
  · rw [if_pos h1] at h; omega
  · rw [if_neg h1] at h
    obtain ⟨h2, h3, h4⟩ := rowE_ok h
    exact ⟨by omega, h2, h3, h4⟩
/-- A right statement. -/
structure StmOk (n : Nat) (s : Stm) : Prop where
  pt : ptE s.box s.rows = 0
  takes : takesV s.kind = (s.gets.length : Int)
  put : AccOk n s.put s.box.length
  gets : ∀ a ∈ s.gets, AccOk n a s.box.length
theorem stmE_ok {n : Nat} {s : Stm} (h : stmE n s = 0) : StmOk n s := by
  unfold stmE at h
  by_cases h1 : ptE s.box s.rows ≠ 0
  · rw [if_pos h1] at h; exact absurd h h1
  rw [if_neg h1] at h
  by_cases h2 : takesV s.kind < 0
  · rw [if_pos h2] at h; omega
  rw [if_neg h2] at h
  by_cases h3 : takesV s.kind ≠ (s.gets.length : Int)
  · rw [if_pos h3] at h; omega
  rw [if_neg h3] at h
  by_cases h4 : accE n s.put s.box.length ≠ 0
  · rw [if_pos h4] at h; exact absurd h h4
  rw [if_neg h4] at h
  exact ⟨by simpa using h1, by simpa using h3, accE_ok (by simpa using h4), fun a ha => accE_ok (accsE_ok h a ha)⟩
structure NestOk (zs : List Int) (ss : List Stm) : Prop where
  many : ss.length ≤ 256
  sizes : ∀ z ∈ zs, 0 ≤ z ∧ z ≤ 65536
  stms : ∀ s ∈ ss, StmOk zs.length s
theorem nestE_ok {zs : List Int} {ss : List Stm} (h : nestE zs ss = 0) : NestOk zs ss := by
  unfold nestE at h
  by_cases h1 : 256 < ss.length
  · rw [if_pos h1] at h; omega
  rw [if_neg h1] at h
  by_cases h2 : zs.any badSize = true
  · rw [if_pos h2] at h; omega
  rw [if_neg h2] at h
  refine ⟨by omega, fun z hz => ?_, fun s hs => stmE_ok (stmsE_ok h s hs)⟩
  have h2' : zs.any badSize = false := by simpa using h2
  have := List.any_eq_false.1 h2' z hz
  simp [badSize] at this
  omega

/-- What a statement puts. -/
def numV (k val a b c was : Int) : Int :=
  if k = 1 then val
  else if k = 3 then IntKind.i64.wrap (a + b)
  else if k = 4 then IntKind.i64.wrap (a - b)
  else if k = 5 then IntKind.i64.wrap (a * b)
  else if k = 6 then (if b < a then a else b)
  else if k = 7 then (if a < b then 1 else 0)
  else if k = 8 then (if a = 0 then c else b)
  else if k = 9 then IntKind.i64.wrap (was + a)
  else if k = 10 then IntKind.i64.wrap (was + IntKind.i64.wrap (a * b))
  else a
/-- Memory: the arrays. -/
abbrev Mem := List (List Int)
def arrM (M : Mem) (k : Nat) : List Int := M[k]?.getD []
/-- Is the place of an access at a point within its array? -/
def inM (M : Mem) (a : Acc) (x : List Int) : Prop := 0 ≤ worthV a.2 x ∧ worthV a.2 x < ((arrM M a.1.toNat).length : Int)
instance (M : Mem) (a : Acc) (x : List Int) : Decidable (inM M a x) := by unfold inM; exact inferInstance
def gotM (M : Mem) (a : Acc) (x : List Int) : Int := if inM M a x then (arrM M a.1.toNat)[(worthV a.2 x).toNat]?.getD 0 else 0
def putM (M : Mem) (k j : Nat) (v : Int) : Mem := M.set k ((arrM M k).set j v)
def gotK (M : Mem) (s : Stm) (x : List Int) (k : Nat) : Int := if k < s.gets.length then gotM M (s.gets[k]?.getD accD) x else 0
def newM (M : Mem) (s : Stm) (x : List Int) : Int := numV s.kind s.val (gotK M s x 0) (gotK M s x 1) (gotK M s x 2) (gotM M s.put x)
/-- A statement at a point. -/
def doM (s : Stm) (M : Mem) (x : List Int) : Mem := if inM M s.put x then putM M s.put.1.toNat (worthV s.put.2 x).toNat (newM M s x) else M
def stmM (M : Mem) (s : Stm) : Mem := (pts s.box s.rows).foldl (doM s) M
def runM (ss : List Stm) (M : Mem) : Mem := ss.foldl stmM M
theorem arrM_put (M : Mem) (k j : Nat) (v : Int) (i : Nat) : arrM (putM M k j v) i = if i = k ∧ k < M.length then (arrM M k).set j v else arrM M i := by
  unfold arrM putM
  rw [List.getElem?_set]
  by_cases h : k = i
  · subst h
    by_cases h2 : k < M.length
    · simp [h2, arrM]
    · simp [h2]
  · rw [if_neg h, if_neg (fun e => h e.1.symm)]
theorem putM_len (M : Mem) (k j : Nat) (v : Int) : (putM M k j v).length = M.length := by simp [putM]
theorem doM_len (s : Stm) (M : Mem) (x : List Int) : (doM s M x).length = M.length := by unfold doM; split <;> simp [putM_len]
theorem arrM_put_len (M : Mem) (k j : Nat) (v : Int) (i : Nat) : (arrM (putM M k j v) i).length = (arrM M i).length := by
  rw [arrM_put]
  split
  · rename_i h; rw [h.1]; simp
  · rfl
theorem doM_arr_len (s : Stm) (M : Mem) (x : List Int) (i : Nat) : (arrM (doM s M x) i).length = (arrM M i).length := by
  unfold doM
  split
  · exact arrM_put_len _ _ _ _ _
  · rfl
/-- All numbers are of 64 bits. -/
def B64 (x : Int) : Prop := -9223372036854775808 ≤ x ∧ x ≤ 9223372036854775807
def MemB (M : Mem) : Prop := ∀ k j : Nat, B64 ((arrM M k)[j]?.getD 0)
theorem ne_wrap_bd (n : Int) : B64 (IntKind.i64.wrap n) := by
  unfold B64
  simp only [IntKind.wrap, IntKind.bits, IntKind.signed]
  simp
  split <;> omega
theorem numV_bd {k val a b c was : Int} (hv : B64 val) (ha : B64 a) (hb : B64 b) (hc : B64 c) : B64 (numV k val a b c was) := by
  unfold numV
  repeat' split
  all_goals first | exact hv | exact ha | exact hb | exact hc | exact ne_wrap_bd _ | (unfold B64; omega)
theorem gotM_bd {M : Mem} (h : MemB M) (a : Acc) (x : List Int) : B64 (gotM M a x) := by
  unfold gotM
  split
  · exact h _ _
  · unfold B64; omega
theorem gotK_bd {M : Mem} (h : MemB M) (s : Stm) (x : List Int) (k : Nat) : B64 (gotK M s x k) := by
  unfold gotK
  split
  · exact gotM_bd h _ _
  · unfold B64; omega
theorem putM_bd {M : Mem} (h : MemB M) {v : Int} (hv : B64 v) (k j : Nat) : MemB (putM M k j v) := by
  intro k' j'
  rw [arrM_put]
  split
  · rw [List.getElem?_set]
    by_cases e : j = j'
    · subst e
      rw [if_pos rfl]
      split
      · exact hv
      · unfold B64; simp
    · rw [if_neg e]; exact h _ _
  · exact h _ _
theorem doM_bd {s : Stm} {M : Mem} (hv : B64 s.val) (h : MemB M) (x : List Int) : MemB (doM s M x) := by
  unfold doM
  split
  · exact putM_bd h (numV_bd hv (gotK_bd h _ _ _) (gotK_bd h _ _ _) (gotK_bd h _ _ _)) _ _
  · exact h
end Go.Proofs.Ytindmfpfpooijaa.V
