/-
  Nests: the mathematics of chapter 10: what is wrong with one, what a statement does. Orders: two statements that are not in each other's way change places; times.
-/
import Derived.Test.YtoidgdbgpbcebaaK7
namespace Go.Proofs.Ytoidgdbgpbcebaa.V
open Go.RowKit
set_option linter.unusedVariables false

/-- An access: the array, the row. -/
abbrev Acc := Int × (List Int × Int)
structure Stm where
  box : List Int
  rows : List (List Int × Int)
  kind : Int
  val : Int
  put : Acc
  gets : List Acc
def accD : Acc := (0, ([], 0))
def stmD : Stm := ⟨[], [], 0, 0, accD, []⟩
def takesV (k : Int) : Int := if k = 1 then 0 else if k = 2 ∨ k = 9 then 1 else if (3 ≤ k ∧ k ≤ 7) ∨ k = 10 then 2 else if k = 8 then 3 else -1
theorem kind_cases (k : Int) : k = 1 ∨ k = 2 ∨ k = 3 ∨ k = 4 ∨ k = 5 ∨ k = 6 ∨ k = 7 ∨ k = 8 ∨ k = 9 ∨ k = 10 ∨ (k ≠ 1 ∧ k ≠ 2 ∧ k ≠ 3 ∧ k ≠ 4 ∧ k ≠ 5 ∧ k ≠ 6 ∧ k ≠ 7 ∧ k ≠ 8 ∧ k ≠ 9 ∧ k ≠ 10) := by omega
theorem takes_none {k : Int} (h : k ≠ 1 ∧ k ≠ 2 ∧ k ≠ 3 ∧ k ≠ 4 ∧ k ≠ 5 ∧ k ≠ 6 ∧ k ≠ 7 ∧ k ≠ 8 ∧ k ≠ 9 ∧ k ≠ 10) : takesV k = -1 := by
  unfold takesV
  rw [if_neg (by omega), if_neg (by omega), if_neg (by omega), if_neg (by omega)]
theorem takes_bd (k : Int) : -1 ≤ takesV k ∧ takesV k ≤ 3 := by
  unfold takesV
  split
  · omega
  · split
    · omega
    · split
      · omega
      · split <;> omega
/-- What is wrong with an access. -/
def accE (n : Nat) (a : Acc) (vars : Nat) : Int := if a.1 < 0 ∨ (n : Int) ≤ a.1 then 4 else rowE a.2 vars
/-- What is wrong with the first access that is not right. -/
def accsE (n : Nat) : List Acc → Nat → Int
  | [], _ => 0
  | a :: az, vars => if accE n a vars ≠ 0 then accE n a vars else accsE n az vars
/-- What is wrong with a statement. -/
def stmE (n : Nat) (s : Stm) : Int :=
  if ptE s.box s.rows ≠ 0 then ptE s.box s.rows
  else if takesV s.kind < 0 then 1
  else if takesV s.kind ≠ (s.gets.length : Int) then 2
  else if accE n s.put s.box.length ≠ 0 then accE n s.put s.box.length
  else accsE n s.gets s.box.length
def stmsE (n : Nat) : List Stm → Int
  | [] => 0
  | s :: ss => if stmE n s ≠ 0 then stmE n s else stmsE n ss
def badSize (x : Int) : Bool := decide (x < 0) || decide (65536 < x)
/-- What is wrong with a nest. -/
def nestE (zs : List Int) (ss : List Stm) : Int := if 256 < ss.length then 2 else if zs.any badSize = true then 4 else stmsE zs.length ss

/-- Of the first that is not right: by steps. -/
theorem accsE_take (n : Nat) (az : List Acc) (vars : Nat) : ∀ k, k < az.length → accsE n (az.take k) vars = 0 → accE n (az[k]?.getD accD) vars = 0 → accsE n (az.take (k + 1)) vars = 0 := by
  induction az with
  | nil => intro k h; simp at h
  | cons r rs ih =>
    intro k h1 h2 h3
    cases k with
    | zero => simp only [List.getElem?_cons_zero, Option.getD_some] at h3; simp [accsE, h3]
    | succ k =>
      simp only [List.take_succ_cons, accsE] at h2 ⊢
      by_cases hr : accE n r vars ≠ 0
      · rw [if_pos hr] at h2; exact absurd h2 hr
      · rw [if_neg hr] at h2 ⊢
        exact ih k (by simpa using h1) h2 (by simpa using h3)
theorem accsE_here (n : Nat) (az : List Acc) (vars : Nat) : ∀ k, k < az.length → accsE n (az.take k) vars = 0 → accE n (az[k]?.getD accD) vars ≠ 0 → accsE n az vars = accE n (az[k]?.getD accD) vars := by
  induction az with
  | nil => intro k h; simp at h
  | cons r rs ih =>
    intro k h1 h2 h3
    cases k with
    | zero => simp only [List.getElem?_cons_zero, Option.getD_some] at h3 ⊢; simp [accsE, h3]
    | succ k =>
      simp only [List.take_succ_cons, accsE] at h2 ⊢
      by_cases hr : accE n r vars ≠ 0
      · rw [if_pos hr] at h2; exact absurd h2 hr
      · rw [if_neg hr] at h2 ⊢
        simpa using ih k (by simpa using h1) h2 (by simpa using h3)
theorem stmsE_take (n : Nat) (ss : List Stm) : ∀ k, k < ss.length → stmsE n (ss.take k) = 0 → stmE n (ss[k]?.getD stmD) = 0 → stmsE n (ss.take (k + 1)) = 0 := by
  induction ss with
  | nil => intro k h; simp at h
  | cons r rs ih =>
    intro k h1 h2 h3
    cases k with
    | zero => simp only [List.getElem?_cons_zero, Option.getD_some] at h3; simp [stmsE, h3]
    | succ k =>
      simp only [List.take_succ_cons, stmsE] at h2 ⊢
      by_cases hr : stmE n r ≠ 0
      · rw [if_pos hr] at h2; exact absurd h2 hr
      · rw [if_neg hr] at h2 ⊢
        exact ih k (by simpa using h1) h2 (by simpa using h3)
theorem stmsE_here (n : Nat) (ss : List Stm) : ∀ k, k < ss.length → stmsE n (ss.take k) = 0 → stmE n (ss[k]?.getD stmD) ≠ 0 → stmsE n ss = stmE n (ss[k]?.getD stmD) := by
  induction ss with
  | nil => intro k h; simp at h
  | cons r rs ih =>
    intro k h1 h2 h3
    cases k with
    | zero => simp only [List.getElem?_cons_zero, Option.getD_some] at h3 ⊢; simp [stmsE, h3]
    | succ k =>
      simp only [List.take_succ_cons, stmsE] at h2 ⊢
      by_cases hr : stmE n r ≠ 0
      · rw [if_pos hr] at h2; exact absurd h2 hr
      · rw [if_neg hr] at h2 ⊢
        simpa using ih k (by simpa using h1) h2 (by simpa using h3)
theorem accsE_ok {n : Nat} : ∀ {az : List Acc} {vars : Nat}, accsE n az vars = 0 → ∀ a ∈ az, accE n a vars = 0
  | [], _, _, a, ha => by simp at ha
  | q :: rs, vars, h, r, hr => by
    simp only [accsE] at h
    by_cases h1 : accE n q vars ≠ 0
    · rw [if_pos h1] at h; exact absurd h h1
    · rw [if_neg h1] at h
      rcases List.mem_cons.1 hr with rfl | hr
      · simpa using h1
      · exact accsE_ok h r hr
theorem stmsE_ok {n : Nat} : ∀ {ss : List Stm}, stmsE n ss = 0 → ∀ s ∈ ss, stmE n s = 0
  | [], _, a, ha => by simp at ha
  | q :: rs, h, r, hr => by
    simp only [stmsE] at h
    by_cases h1 : stmE n q ≠ 0
    · rw [if_pos h1] at h; exact absurd h h1
    · rw [if_neg h1] at h
      rcases List.mem_cons.1 hr with rfl | hr
      · simpa using h1
      · exact stmsE_ok h r hr
/-- A right access. -/
structure AccOk (n : Nat) (a : Acc) (vars : Nat) : Prop where
  arr : 0 ≤ a.1 ∧ a.1 < (n : Int)
  len : a.2.1.length = vars
  con : -1048576 ≤ a.2.2 ∧ a.2.2 ≤ 1048576
  coef : ∀ c ∈ a.2.1, -1048576 ≤ c ∧ c ≤ 1048576
theorem accE_ok {n : Nat} {a : Acc} {vars : Nat} (h : accE n a vars = 0) : AccOk n a vars := by
  unfold accE at h
  by_cases h1 : a.1 < 0 ∨ (n : Int) ≤ a.1
  · rw [if_pos h1] at h; omega
  · rw [if_neg h1] at h
    obtain ⟨h2, h3, h4⟩ := rowE_ok h
    exact ⟨by omega, h2, h3, h4⟩
/-- A right statement. -/
structure StmOk (n : Nat) (s : Stm) : Prop where
  pt : ptE s.box s.rows = 0
  takes : takesV s.kind = (s.gets.length : Int)
  put : AccOk n s.put s.box.length
  gets : ∀ a ∈ s.gets, AccOk n a s.box.length
theorem stmE_ok {n : Nat} {s : Stm} (h : stmE n s = 0) : StmOk n s := by
  unfold stmE at h
  by_cases h1 : ptE s.box s.rows ≠ 0
  · rw [if_pos h1] at h; exact absurd h h1
  rw [if_neg h1] at h
  by_cases h2 : takesV s.kind < 0
  · rw [if_pos h2] at h; omega
  rw [if_neg h2] at h
  by_cases h3 : takesV s.kind ≠ (s.gets.length : Int)
  · rw [if_pos h3] at h; omega
  rw [if_neg h3] at h
  by_cases h4 : accE n s.put s.box.length ≠ 0
  · rw [if_pos h4] at h; exact absurd h h4
  rw [if_neg h4] at h
  exact ⟨by simpa using h1, by simpa using h3, accE_ok (by simpa using h4), fun a ha => accE_ok (accsE_ok h a ha)⟩
structure NestOk (zs : List Int) (ss : List Stm) : Prop where
  many : ss.length ≤ 256
  sizes : ∀ z ∈ zs, 0 ≤ z ∧ z ≤ 65536
  stms : ∀ s ∈ ss, StmOk zs.length s
theorem nestE_ok {zs : List Int} {ss : List Stm} (h : nestE zs ss = 0) : NestOk zs ss := by
  unfold nestE at h
  by_cases h1 : 256 < ss.length
  · rw [if_pos h1] at h; omega
  rw [if_neg h1] at h
  by_cases h2 : zs.any badSize = true
  · rw [if_pos h2] at h; omega
  rw [if_neg h2] at h
  refine ⟨by omega, fun z hz => ?_, fun s hs => stmE_ok (stmsE_ok h s hs)⟩
  have h2' : zs.any badSize = false := by simpa using h2
  have := List.any_eq_false.1 h2' z hz
  simp [badSize] at this
  omega

/-- What a statement puts. -/
def numV (k val a b c was : Int) : Int :=
  if k = 1 then val
  else if k = 3 then IntKind.i64.wrap (a + b)
  else if k = 4 then IntKind.i64.wrap (a - b)
  else if k = 5 then IntKind.i64.wrap (a * b)
  else if k = 6 then (if b < a then a else b)
  else if k = 7 then (if a < b then 1 else 0)
  else if k = 8 then (if a = 0 then c else b)
  else if k = 9 then IntKind.i64.wrap (was + a)
  else if k = 10 then IntKind.i64.wrap (was + IntKind.i64.wrap (a * b))
  else a
/-- Memory: the arrays. -/
abbrev Mem := List (List Int)
def arrM (M : Mem) (k : Nat) : List Int := M[k]?.getD []
/-- Is the place of an access at a point within its array? -/
def inM (M : Mem) (a : Acc) (x : List Int) : Prop := 0 ≤ worthV a.2 x ∧ worthV a.2 x < ((arrM M a.1.toNat).length : Int)
instance (M : Mem) (a : Acc) (x : List Int) : Decidable (inM M a x) := by unfold inM; exact inferInstance
def gotM (M : Mem) (a : Acc) (x : List Int) : Int := if inM M a x then (arrM M a.1.toNat)[(worthV a.2 x).toNat]?.getD 0 else 0
def putM (M : Mem) (k j : Nat) (v : Int) : Mem := M.set k ((arrM M k).set j v)
def gotK (M : Mem) (s : Stm) (x : List Int) (k : Nat) : Int := if k < s.gets.length then gotM M (s.gets[k]?.getD accD) x else 0
def newM (M : Mem) (s : Stm) (x : List Int) : Int := numV s.kind s.val (gotK M s x 0) (gotK M s x 1) (gotK M s x 2) (gotM M s.put x)
/-- A statement at a point. -/
def doM (s : Stm) (M : Mem) (x : List Int) : Mem := if inM M s.put x then putM M s.put.1.toNat (worthV s.put.2 x).toNat (newM M s x) else M
def stmM (M : Mem) (s : Stm) : Mem := (pts s.box s.rows).foldl (doM s) M
def runM (ss : List Stm) (M : Mem) : Mem := ss.foldl stmM M
theorem arrM_put (M : Mem) (k j : Nat) (v : Int) (i : Nat) : arrM (putM M k j v) i = if i = k ∧ k < M.length then (arrM M k).set j v else arrM M i := by
  unfold arrM putM
  rw [List.getElem?_set]
  by_cases h : k = i
  · subst h
    by_cases h2 : k < M.length
    · simp [h2, arrM]
    · simp [h2]
  · rw [if_neg h, if_neg (fun e => h e.1.symm)]
theorem putM_len (M : Mem) (k j : Nat) (v : Int) : (putM M k j v).length = M.length := by simp [putM]
theorem doM_len (s : Stm) (M : Mem) (x : List Int) : (doM s M x).length = M.length := by unfold doM; split <;> simp [putM_len]
theorem arrM_put_len (M : Mem) (k j : Nat) (v : Int) (i : Nat) : (arrM (putM M k j v) i).length = (arrM M i).length := by
  rw [arrM_put]
  split
  · rename_i h; rw [h.1]; simp
  · rfl
theorem doM_arr_len (s : Stm) (M : Mem) (x : List Int) (i : Nat) : (arrM (doM s M x) i).length = (arrM M i).length := by
  unfold doM
  split
  · exact arrM_put_len _ _ _ _ _
  · rfl
/-- All numbers are of 64 bits. -/
def B64 (x : Int) : Prop := -9223372036854775808 ≤ x ∧ x ≤ 9223372036854775807
def MemB (M : Mem) : Prop := ∀ k j : Nat, B64 ((arrM M k)[j]?.getD 0)
theorem ne_wrap_bd (n : Int) : B64 (IntKind.i64.wrap n) := by
  unfold B64
  simp only [IntKind.wrap, IntKind.bits, IntKind.signed]
  simp
  split <;> omega
theorem numV_bd {k val a b c was : Int} (hv : B64 val) (ha : B64 a) (hb : B64 b) (hc : B64 c) : B64 (numV k val a b c was) := by
  unfold numV
  repeat' split
  all_goals first | exact hv | exact ha | exact hb | exact hc | exact ne_wrap_bd _ | (unfold B64; omega)
theorem gotM_bd {M : Mem} (h : MemB M) (a : Acc) (x : List Int) : B64 (gotM M a x) := by
  unfold gotM
  split
  · exact h _ _
  · unfold B64; omega
theorem gotK_bd {M : Mem} (h : MemB M) (s : Stm) (x : List Int) (k : Nat) : B64 (gotK M s x k) := by
  unfold gotK
  split
  · exact gotM_bd h _ _
  · unfold B64; omega
theorem putM_bd {M : Mem} (h : MemB M) {v : Int} (hv : B64 v) (k j : Nat) : MemB (putM M k j v) := by
  intro k' j'
  rw [arrM_put]
  split
  · rw [List.getElem?_set]
    by_cases e : j = j'
    · subst e
      rw [if_pos rfl]
      split
      · exact hv
      · unfold B64; simp
    · rw [if_neg e]; exact h _ _
  · exact h _ _
theorem doM_bd {s : Stm} {M : Mem} (hv : B64 s.val) (h : MemB M) (x : List Int) : MemB (doM s M x) := by
  unfold doM
  split
  · exact putM_bd h (numV_bd hv (gotK_bd h _ _ _) (gotK_bd h _ _ _) (gotK_bd h _ _ _)) _ _
  · exact h
end Go.Proofs.Ytoidgdbgpbcebaa.V
namespace Go.Proofs.Ytoidgdbgpbcebaa.V
open Go.RowKit
set_option linter.unusedVariables false

/-- What hangs on the lengths of the arrays alone. -/
def SameLen (M N : Mem) : Prop := M.length = N.length ∧ ∀ i, (arrM M i).length = (arrM N i).length
theorem SameLen.refl (M : Mem) : SameLen M M := ⟨rfl, fun _ => rfl⟩
theorem SameLen.trans {M N P : Mem} (h : SameLen M N) (k : SameLen N P) : SameLen M P := ⟨h.1.trans k.1, fun i => (h.2 i).trans (k.2 i)⟩
theorem SameLen.symm {M N : Mem} (h : SameLen M N) : SameLen N M := ⟨h.1.symm, fun i => (h.2 i).symm⟩
theorem doM_same (s : Stm) (M : Mem) (x : List Int) : SameLen (doM s M x) M := ⟨doM_len s M x, doM_arr_len s M x⟩
theorem inM_same {M N : Mem} (h : SameLen M N) (a : Acc) (x : List Int) : inM M a x ↔ inM N a x := by unfold inM; rw [h.2]
theorem putM_same (M : Mem) (k j : Nat) (v : Int) : SameLen (putM M k j v) M := ⟨putM_len M k j v, arrM_put_len M k j v⟩

/-- Two spots are in each other's way. -/
def clash (M : Mem) (s t : Stm) (x y : List Int) : Prop :=
  (inM M s.put x ∧ inM M t.put y) ∧
  ((s.put.1 = t.put.1 ∧ worthV s.put.2 x = worthV t.put.2 y ∧ ¬ (9 ≤ s.kind ∧ 9 ≤ t.kind)) ∨
   (∃ g ∈ t.gets, g.1 = s.put.1 ∧ inM M g y ∧ worthV g.2 y = worthV s.put.2 x) ∨
   (∃ g ∈ s.gets, g.1 = t.put.1 ∧ inM M g x ∧ worthV g.2 x = worthV t.put.2 y))
theorem clash_same {M N : Mem} (h : SameLen M N) (s t : Stm) (x y : List Int) : clash M s t x y ↔ clash N s t x y := by
  unfold clash
  simp only [inM_same h]

/-- What is got elsewhere than where it was put is what it was. -/
theorem gotM_other {M : Mem} {k q : Nat} {v : Int} {g : Acc} {x : List Int} (h : ¬ (g.1.toNat = k ∧ inM M g x ∧ (worthV g.2 x).toNat = q)) : gotM (putM M k q v) g x = gotM M g x := by
  unfold gotM
  have hc := inM_same (putM_same M k q v) g x
  by_cases hi : inM M g x
  · rw [if_pos (hc.2 hi), if_pos hi, arrM_put]
    by_cases e : g.1.toNat = k ∧ k < M.length
    · rw [if_pos e, List.getElem?_set, if_neg (fun e2 => h ⟨e.1, hi, e2.symm⟩), e.1]
    · rw [if_neg e]
  · rw [if_neg (fun hh => hi (hc.1 hh)), if_neg hi]
theorem gotM_here {M : Mem} {g : Acc} {x : List Int} {v : Int} (hi : inM M g x) (hk : g.1.toNat < M.length) : gotM (putM M g.1.toNat (worthV g.2 x).toNat v) g x = v := by
  unfold gotM
  rw [if_pos ((inM_same (putM_same M _ _ v) g x).2 hi), arrM_put, if_pos ⟨rfl, hk⟩, List.getElem?_set, if_pos rfl, if_pos (by have := hi.1; have := hi.2; omega)]
  rfl
theorem gotK_other {M : Mem} {k q : Nat} {v : Int} {s : Stm} {x : List Int} (h : ∀ g ∈ s.gets, ¬ (g.1.toNat = k ∧ inM M g x ∧ (worthV g.2 x).toNat = q)) (i : Nat) : gotK (putM M k q v) s x i = gotK M s x i := by
  unfold gotK
  by_cases hi : i < s.gets.length
  · rw [if_pos hi, if_pos hi]
    exact gotM_other (h _ (by simp [hi]))
  · rw [if_neg hi, if_neg hi]
theorem putM_comm (M : Mem) {k l p q : Nat} (v u : Int) (h : ¬ (k = l ∧ p = q)) : putM (putM M k p v) l q u = putM (putM M l q u) k p v := by
  apply List.ext_getElem?
  intro i
  have e : ∀ (A : Mem), A[i]? = if i < A.length then some (arrM A i) else none := fun A => by
    unfold arrM
    by_cases hi : i < A.length
    · simp [hi]
    · rw [if_neg hi, List.getElem?_eq_none (by omega)]
  rw [e, e, putM_len, putM_len, putM_len, putM_len]
  by_cases hi : i < M.length
  · rw [if_pos hi, if_pos hi]
    congr 1
    rw [arrM_put, arrM_put, arrM_put, arrM_put, putM_len, putM_len]
    by_cases h1 : i = l
    · by_cases h2 : i = k
      · have hkl : k = l := h2.symm.trans h1
        subst h1
        subst h2
        have hpq : p ≠ q := fun e => h ⟨rfl, e⟩
        simp only [arrM_put, hi, and_self, if_true]
        exact List.set_comm _ _ hpq
      · subst h1
        simp [hi, h2, arrM_put]
    · by_cases h2 : i = k
      · subst h2
        simp [hi, h1, arrM_put]
      · simp [h1, h2, arrM_put]
  · rw [if_neg hi, if_neg hi]
theorem putM_twice (M : Mem) (k p : Nat) (v u : Int) : putM (putM M k p v) k p u = putM M k p u := by
  unfold putM
  by_cases hk : k < M.length
  · have e : arrM (M.set k ((arrM M k).set p v)) k = (arrM M k).set p v := by
      have := arrM_put M k p v k
      unfold putM at this
      rw [this, if_pos ⟨rfl, hk⟩]
    rw [e]
    simp
  · have hh : ∀ z, M.set k z = M := fun z => List.set_eq_of_length_le (by omega)
    simp only [hh]
theorem wrap_add_left (a b : Int) : IntKind.i64.wrap (IntKind.i64.wrap a + b) = IntKind.i64.wrap (a + b) := by
  simp only [IntKind.wrap, IntKind.bits, IntKind.signed]
  simp
  split <;> split <;> split <;> omega
theorem numV_add {k val a b c was : Int} (h9 : 9 ≤ k) (h10 : k ≤ 10) : numV k val a b c was = IntKind.i64.wrap (was + (if k = 9 then a else IntKind.i64.wrap (a * b))) := by
  have : k = 9 ∨ k = 10 := by omega
  rcases this with rfl | rfl <;> simp [numV]
/-- Statements that are not in each other's way change places. -/
theorem doM_comm {M : Mem} {s t : Stm} {x y : List Int} (hs : StmOk M.length s) (ht : StmOk M.length t) (h : ¬ clash M s t x y) : doM s (doM t M y) x = doM t (doM s M x) y := by
  by_cases h1 : inM M s.put x
  · by_cases h2 : inM M t.put y
    · have hn : ¬ ((s.put.1 = t.put.1 ∧ worthV s.put.2 x = worthV t.put.2 y ∧ ¬ (9 ≤ s.kind ∧ 9 ≤ t.kind)) ∨ (∃ g ∈ t.gets, g.1 = s.put.1 ∧ inM M g y ∧ worthV g.2 y = worthV s.put.2 x) ∨ (∃ g ∈ s.gets, g.1 = t.put.1 ∧ inM M g x ∧ worthV g.2 x = worthV t.put.2 y)) := fun hh => h ⟨⟨h1, h2⟩, hh⟩
      rw [not_or, not_or] at hn
      obtain ⟨n1, n2, n3⟩ := hn
      have a1 := hs.put.arr
      have a2 := ht.put.arr
      have hks : s.put.1.toNat < M.length := by omega
      have hkt : t.put.1.toNat < M.length := by omega
      have gs : ∀ v, ∀ i, gotK (putM M t.put.1.toNat (worthV t.put.2 y).toNat v) s x i = gotK M s x i := fun v i => gotK_other (fun g hg hh => n3 ⟨g, hg, by have := (hs.gets g hg).arr; omega, hh.2.1, by have := hh.2.1.1; have := h2.1; omega⟩) i
      have gt : ∀ v, ∀ i, gotK (putM M s.put.1.toNat (worthV s.put.2 x).toNat v) t y i = gotK M t y i := fun v i => gotK_other (fun g hg hh => n2 ⟨g, hg, by have := (ht.gets g hg).arr; omega, hh.2.1, by have := hh.2.1.1; have := h1.1; omega⟩) i
      have dt : doM t M y = putM M t.put.1.toNat (worthV t.put.2 y).toNat (newM M t y) := by unfold doM; rw [if_pos h2]
      have ds : doM s M x = putM M s.put.1.toNat (worthV s.put.2 x).toNat (newM M s x) := by unfold doM; rw [if_pos h1]
      rw [dt, ds]
      have i1 : inM (putM M t.put.1.toNat (worthV t.put.2 y).toNat (newM M t y)) s.put x := (inM_same (putM_same _ _ _ _) _ _).2 h1
      have i2 : inM (putM M s.put.1.toNat (worthV s.put.2 x).toNat (newM M s x)) t.put y := (inM_same (putM_same _ _ _ _) _ _).2 h2
      unfold doM
      rw [if_pos i1, if_pos i2]
      by_cases e : s.put.1.toNat = t.put.1.toNat ∧ (worthV s.put.2 x).toNat = (worthV t.put.2 y).toNat
      · have ea : s.put.1 = t.put.1 := by omega
        have ew : worthV s.put.2 x = worthV t.put.2 y := by have := h1.1; have := h2.1; omega
        have hk : 9 ≤ s.kind ∧ 9 ≤ t.kind := by
          by_cases hk : 9 ≤ s.kind ∧ 9 ≤ t.kind
          · exact hk
          · exact absurd ⟨ea, ew, hk⟩ n1
        have b1 : s.kind ≤ 10 := by
          have := hs.takes
          by_cases hb : s.kind ≤ 10
          · exact hb
          · rw [takes_none (by omega)] at this; omega
        have b2 : t.kind ≤ 10 := by
          have := ht.takes
          by_cases hb : t.kind ≤ 10
          · exact hb
          · rw [takes_none (by omega)] at this; omega
        have w1 : gotM (putM M t.put.1.toNat (worthV t.put.2 y).toNat (newM M t y)) s.put x = newM M t y := by
          rw [← e.1, ← e.2]; exact gotM_here h1 hks
        have w2 : gotM (putM M s.put.1.toNat (worthV s.put.2 x).toNat (newM M s x)) t.put y = newM M s x := by
          rw [e.1, e.2]; exact gotM_here h2 hkt
        have g0 : gotM M s.put x = gotM M t.put y := by
          unfold gotM
          rw [if_pos h1, if_pos h2, e.1, e.2]
        have v1 : newM (putM M t.put.1.toNat (worthV t.put.2 y).toNat (newM M t y)) s x = IntKind.i64.wrap (newM M t y + (if s.kind = 9 then gotK M s x 0 else IntKind.i64.wrap (gotK M s x 0 * gotK M s x 1))) := by
          have hv : ∀ N, newM N s x = numV s.kind s.val (gotK N s x 0) (gotK N s x 1) (gotK N s x 2) (gotM N s.put x) := fun _ => rfl
          rw [hv, numV_add hk.1 b1, gs, gs, w1]
        have v2 : newM (putM M s.put.1.toNat (worthV s.put.2 x).toNat (newM M s x)) t y = IntKind.i64.wrap (newM M s x + (if t.kind = 9 then gotK M t y 0 else IntKind.i64.wrap (gotK M t y 0 * gotK M t y 1))) := by
          have hv : ∀ N, newM N t y = numV t.kind t.val (gotK N t y 0) (gotK N t y 1) (gotK N t y 2) (gotM N t.put y) := fun _ => rfl
          rw [hv, numV_add hk.2 b2, gt, gt, w2]
        have u1 : newM M s x = IntKind.i64.wrap (gotM M s.put x + (if s.kind = 9 then gotK M s x 0 else IntKind.i64.wrap (gotK M s x 0 * gotK M s x 1))) := numV_add hk.1 b1
        have u2 : newM M t y = IntKind.i64.wrap (gotM M t.put y + (if t.kind = 9 then gotK M t y 0 else IntKind.i64.wrap (gotK M t y 0 * gotK M t y 1))) := numV_add hk.2 b2
        rw [v1, v2, ← e.1, ← e.2, putM_twice, putM_twice, u1, u2, wrap_add_left, wrap_add_left, g0]
        congr 2
        omega
      · have w1 : newM (putM M t.put.1.toNat (worthV t.put.2 y).toNat (newM M t y)) s x = newM M s x := by
          unfold newM
          rw [gs, gs, gs, gotM_other (fun hh => e ⟨hh.1, hh.2.2⟩)]
        have w2 : newM (putM M s.put.1.toNat (worthV s.put.2 x).toNat (newM M s x)) t y = newM M t y := by
          unfold newM
          rw [gt, gt, gt, gotM_other (fun hh => e ⟨hh.1.symm, hh.2.2.symm⟩)]
        rw [w1, w2]
        exact putM_comm M _ _ (fun hh => e ⟨hh.1.symm, hh.2.symm⟩)
    · have e2 : ∀ N, SameLen N M → doM t N y = N := fun N hN => by unfold doM; rw [if_neg (fun hh => h2 ((inM_same hN _ _).1 hh))]
      rw [e2 M (SameLen.refl _), e2 _ (doM_same s M x)]
  · have e1 : ∀ N, SameLen N M → doM s N x = N := fun N hN => by unfold doM; rw [if_neg (fun hh => h1 ((inM_same hN _ _).1 hh))]
    rw [e1 M (SameLen.refl _), e1 _ (doM_same t M y)]

/-- What is not in the way of all that stand ahead of it can be done first. -/
theorem fold_front {α β : Type} (f : β → α → β) (Good : β → Prop) (hG : ∀ b a, Good b → Good (f b a)) (a : α) (post : List α) : ∀ (pre : List α) (M : β), Good M → (∀ b ∈ pre, ∀ N, Good N → f (f N b) a = f (f N a) b) → (pre ++ a :: post).foldl f M = (pre ++ post).foldl f (f M a)
  | [], M, _, _ => rfl
  | b :: pre, M, hM, h => by
    rw [List.cons_append, List.foldl_cons, fold_front f Good hG a post pre (f M b) (hG _ _ hM) (fun b' hb' => h b' (by simp [hb'])), List.cons_append, List.foldl_cons, h b (by simp) M hM]
end Go.Proofs.Ytoidgdbgpbcebaa.V
