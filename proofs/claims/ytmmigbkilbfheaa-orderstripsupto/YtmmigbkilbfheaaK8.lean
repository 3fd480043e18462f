/-
  Nests: the mathematics of chapter 10: what is wrong with one, what a statement does. Orders: strips: two numbers in the place of one, the same points in the same order. Orders: a stripped statement does what it did. Orders: two statements that are not in each other's way change places; times.
-/
import Derived.Test.YtmmigbkilbfheaaK7
namespace Go.Proofs.Ytmmigbkilbfheaa.V
open Go.RowKit
set_option linter.unusedVariables false

/-- An access: the array, the row. -/
abbrev Acc := Int × (List Int × Int)
structure Stm where
  box : List Int
  rows : List (List Int × Int)
  kind : Int
  val : Int
  put : Acc
  gets : List Acc
def accD : Acc := (0, ([], 0))
def stmD : Stm := ⟨[], [], 0, 0, accD, []⟩
def takesV (k : Int) : Int := if k = 1 then 0 else if k = 2 ∨ k = 9 then 1 else if (3 ≤ k ∧ k ≤ 7) ∨ k = 10 then 2 else if k = 8 then 3 else -1
theorem kind_cases (k : Int) : k = 1 ∨ k = 2 ∨ k = 3 ∨ k = 4 ∨ k = 5 ∨ k = 6 ∨ k = 7 ∨ k = 8 ∨ k = 9 ∨ k = 10 ∨ (k ≠ 1 ∧ k ≠ 2 ∧ k ≠ 3 ∧ k ≠ 4 ∧ k ≠ 5 ∧ k ≠ 6 ∧ k ≠ 7 ∧ k ≠ 8 ∧ k ≠ 9 ∧ k ≠ 10) := by omega
theorem takes_none {k : Int} (h : k ≠ 1 ∧ k ≠ 2 ∧ k ≠ 3 ∧ k ≠ 4 ∧ k ≠ 5 ∧ k ≠ 6 ∧ k ≠ 7 ∧ k ≠ 8 ∧ k ≠ 9 ∧ k ≠ 10) : takesV k = -1 := by
  unfold takesV
  rw [if_neg (by omega), if_neg (by omega), if_neg (by omega), if_neg (by omega)]
theorem takes_bd (k : Int) : -1 ≤ takesV k ∧ takesV k ≤ 3 := by
  unfold takesV
  split
  · omega
  · split
    · omega
    · split
      · omega
      · split <;> omega
/-- What is wrong with an access. -/
def accE (n : Nat) (a : Acc) (vars : Nat) : Int := if a.1 < 0 ∨ (n : Int) ≤ a.1 then 4 else rowE a.2 vars
/-- What is wrong with the first access that is not right. -/
def accsE (n : Nat) : List Acc → Nat → Int
  | [], _ => 0
  | a :: az, vars => if accE n a vars ≠ 0 then accE n a vars else accsE n az vars
/-- What is wrong with a statement. -/
def stmE (n : Nat) (s : Stm) : Int :=
  if ptE s.box s.rows ≠ 0 then ptE s.box s.rows
  else if takesV s.kind < 0 then 1
  else if takesV s.kind ≠ (s.gets.length : Int) then 2
  else if accE n s.put s.box.length ≠ 0 then accE n s.put s.box.length
  else accsE n s.gets s.box.length
def stmsE (n : Nat) : List Stm → Int
  | [] => 0
  | s :: ss => if stmE n s ≠ 0 then stmE n s else stmsE n ss
def badSize (x : Int) : Bool := decide (x < 0) || decide (65536 < x)
/-- What is wrong with a nest. -/
def nestE (zs : List Int) (ss : List Stm) : Int := if 256 < ss.length then 2 else if zs.any badSize = true then 4 else stmsE zs.length ss

/-- Of the first that is not right: by steps. -/
theorem accsE_take (n : Nat) (az : List Acc) (vars : Nat) : ∀ k, k < az.length → accsE n (az.take k) vars = 0 → accE n (az[k]?.getD accD) vars = 0 → accsE n (az.take (k + 1)) vars = 0 := by
  induction az with
  | nil => intro k h; simp at h
  | cons r rs ih =>
    intro k h1 h2 h3
    cases k with
    | zero => simp only [List.getElem?_cons_zero, Option.getD_some] at h3; simp [accsE, h3]
    | succ k =>
      simp only [List.take_succ_cons, accsE] at h2 ⊢
      by_cases hr : accE n r vars ≠ 0
      · rw [if_pos hr] at h2; exact absurd h2 hr
      · rw [if_neg hr] at h2 ⊢
        exact ih k (by simpa using h1) h2 (by simpa using h3)
theorem accsE_here (n : Nat) (az : List Acc) (vars : Nat) : ∀ k, k < az.length → accsE n (az.take k) vars = 0 → accE n (az[k]?.getD accD) vars ≠ 0 → accsE n az vars = accE n (az[k]?.getD accD) vars := by
  induction az with
  | nil => intro k h; simp at h
  | cons r rs ih =>
    intro k h1 h2 h3
    cases k with
    | zero => simp only [List.getElem?_cons_zero, Option.getD_some] at h3 ⊢; simp [accsE, h3]
    | succ k =>
      simp only [List.take_succ_cons, accsE] at h2 ⊢
      by_cases hr : accE n r vars ≠ 0
      · rw [if_pos hr] at h2; exact absurd h2 hr
      · rw [if_neg hr] at h2 ⊢
        simpa using ih k (by simpa using h1) h2 (by simpa using h3)
theorem stmsE_take (n : Nat) (ss : List Stm) : ∀ k, k < ss.length → stmsE n (ss.take k) = 0 → stmE n (ss[k]?.getD stmD) = 0 → stmsE n (ss.take (k + 1)) = 0 := by
  induction ss with
  | nil => intro k h; simp at h
  | cons r rs ih =>
    intro k h1 h2 h3
    cases k with
    | zero => simp only [List.getElem?_cons_zero, Option.getD_some] at h3; simp [stmsE, h3]
    | succ k =>
      simp only [List.take_succ_cons, stmsE] at h2 ⊢
      by_cases hr : stmE n r ≠ 0
      · rw [if_pos hr] at h2; exact absurd h2 hr
      · rw [if_neg hr] at h2 ⊢
        exact ih k (by simpa using h1) h2 (by simpa using h3)
theorem stmsE_here (n : Nat) (ss : List Stm) : ∀ k, k < ss.length → stmsE n (ss.take k) = 0 → stmE n (ss[k]?.getD stmD) ≠ 0 → stmsE n ss = stmE n (ss[k]?.getD stmD) := by
  induction ss with
  | nil => intro k h; simp at h
  | cons r rs ih =>
    intro k h1 h2 h3
    cases k with
    | zero => simp only [List.getElem?_cons_zero, Option.getD_some] at h3 ⊢; simp [stmsE, h3]
    | succ k =>
      simp only [List.take_succ_cons, stmsE] at h2 ⊢
      by_cases hr : stmE n r ≠ 0
      · rw [if_pos hr] at h2; exact absurd h2 hr
      · rw [if_neg hr] at h2 ⊢
        simpa using ih k (by simpa using h1) h2 (by simpa using h3)
theorem accsE_ok {n : Nat} : ∀ {az : List Acc} {vars : Nat}, accsE n az vars = 0 → ∀ a ∈ az, accE n a vars = 0
  | [], _, _, a, ha => by simp at ha
  | q :: rs, vars, h, r, hr => by
    simp only [accsE] at h
    by_cases h1 : accE n q vars ≠ 0
    · rw [if_pos h1] at h; exact absurd h h1
    · rw [if_neg h1] at h
      rcases List.mem_cons.1 hr with rfl | hr
      · simpa using h1
      · exact accsE_ok h r hr
theorem stmsE_ok {n : Nat} : ∀ {ss : List Stm}, stmsE n ss = 0 → ∀ s ∈ ss, stmE n s = 0
  | [], _, a, ha => by simp at ha
  | q :: rs, h, r, hr => by
    simp only [stmsE] at h
    by_cases h1 : stmE n q ≠ 0
    · rw [if_pos h1] at h; exact absurd h h1
    · rw [if_neg h1] at h
      rcases List.mem_cons.1 hr with rfl | hr
      · simpa using h1
      · exact stmsE_ok h r hr
/-- A right access. -/
structure AccOk (n : Nat) (a : Acc) (vars : Nat) : Prop where
  arr : 0 ≤ a.1 ∧ a.1 < (n : Int)
  len : a.2.1.length = vars
  con : -1048576 ≤ a.2.2 ∧ a.2.2 ≤ 1048576
  coef : ∀ c ∈ a.2.1, -1048576 ≤ c ∧ c ≤ 1048576
theorem accE_ok {n : Nat} {a : Acc} {vars : Nat} (h : accE n a vars = 0) : AccOk n a vars := by
  unfold accE at h
  by_cases h1 : a.1 < 0 ∨ (n : Int) ≤ a.1
  · rw [if_pos h1] at h; omega
  · rw [if_neg h1] at h
    obtain ⟨h2, h3, h4⟩ := rowE_ok h
    exact ⟨by omega, h2, h3, h4⟩
/-- A right statement. -/
structure StmOk (n : Nat) (s : Stm) : Prop where
  pt : ptE s.box s.rows = 0
  takes : takesV s.kind = (s.gets.length : Int)
  put : AccOk n s.put s.box.length
  gets : ∀ a ∈ s.gets, AccOk n a s.box.length
theorem stmE_ok {n : Nat} {s : Stm} (h : stmE n s = 0) : StmOk n s := by
  unfold stmE at h
  by_cases h1 : ptE s.box s.rows ≠ 0
  · rw [if_pos h1] at h; exact absurd h h1
  rw [if_neg h1] at h
  by_cases h2 : takesV s.kind < 0
  · rw [if_pos h2] at h; omega
  rw [if_neg h2] at h
  by_cases h3 : takesV s.kind ≠ (s.gets.length : Int)
  · rw [if_pos h3] at h; omega
  rw [if_neg h3] at h
  by_cases h4 : accE n s.put s.box.length ≠ 0
  · rw [if_pos h4] at h; exact absurd h h4
  rw [if_neg h4] at h
  exact ⟨by simpa using h1, by simpa using h3, accE_ok (by simpa using h4), fun a ha => accE_ok (accsE_ok h a ha)⟩
structure NestOk (zs : List Int) (ss : List Stm) : Prop where
  many : ss.length ≤ 256
  sizes : ∀ z ∈ zs, 0 ≤ z ∧ z ≤ 65536
  stms : ∀ s ∈ ss, StmOk zs.length s
theorem nestE_ok {zs : List Int} {ss : List Stm} (h : nestE zs ss = 0) : NestOk zs ss := by
  unfold nestE at h
  by_cases h1 : 256 < ss.length
  · rw [if_pos h1] at h; omega
  rw [if_neg h1] at h
  by_cases h2 : zs.any badSize = true
  · rw [if_pos h2] at h; omega
  rw [if_neg h2] at h
  refine ⟨by omega, fun z hz => ?_, fun s hs => stmE_ok (stmsE_ok h s hs)⟩
  have h2' : zs.any badSize = false := by simpa using h2
  have := List.any_eq_false.1 h2' z hz
  simp [badSize] at this
  omega

/-- What a statement puts. -/
def numV (k val a b c was : Int) : Int :=
  if k = 1 then val
  else if k = 3 then IntKind.i64.wrap (a + b)
  else if k = 4 then IntKind.i64.wrap (a - b)
  else if k = 5 then IntKind.i64.wrap (a * b)
  else if k = 6 then (if b < a then a else b)
  else if k = 7 then (if a < b then 1 else 0)
  else if k = 8 then (if a = 0 then c else b)
  else if k = 9 then IntKind.i64.wrap (was + a)
  else if k = 10 then IntKind.i64.wrap (was + IntKind.i64.wrap (a * b))
  else a
/-- Memory: the arrays. -/
abbrev Mem := List (List Int)
def arrM (M : Mem) (k : Nat) : List Int := M[k]?.getD []
/-- Is the place of an access at a point within its array? -/
def inM (M : Mem) (a : Acc) (x : List Int) : Prop := 0 ≤ worthV a.2 x ∧ worthV a.2 x < ((arrM M a.1.toNat).length : Int)
instance (M : Mem) (a : Acc) (x : List Int) : Decidable (inM M a x) := by unfold inM; exact inferInstance
def gotM (M : Mem) (a : Acc) (x : List Int) : Int := if inM M a x then (arrM M a.1.toNat)[(worthV a.2 x).toNat]?.getD 0 else 0
def putM (M : Mem) (k j : Nat) (v : Int) : Mem := M.set k ((arrM M k).set j v)
def gotK (M : Mem) (s : Stm) (x : List Int) (k : Nat) : Int := if k < s.gets.length then gotM M (s.gets[k]?.getD accD) x else 0
def newM (M : Mem) (s : Stm) (x : List Int) : Int := numV s.kind s.val (gotK M s x 0) (gotK M s x 1) (gotK M s x 2) (gotM M s.put x)
/-- A statement at a point. -/
def doM (s : Stm) (M : Mem) (x : List Int) : Mem := if inM M s.put x then putM M s.put.1.toNat (worthV s.put.2 x).toNat (newM M s x) else M
def stmM (M : Mem) (s : Stm) : Mem := (pts s.box s.rows).foldl (doM s) M
def runM (ss : List Stm) (M : Mem) : Mem := ss.foldl stmM M
theorem arrM_put (M : Mem) (k j : Nat) (v : Int) (i : Nat) : arrM (putM M k j v) i = if i = k ∧ k < M.length then (arrM M k).set j v else arrM M i := by
  unfold arrM putM
  rw [List.getElem?_set]
  by_cases h : k = i
  · subst h
    by_cases h2 : k < M.length
    · simp [h2, arrM]
    · simp [h2]
  · rw [if_neg h, if_neg (fun e => h e.1.symm)]
theorem putM_len (M : Mem) (k j : Nat) (v : Int) : (putM M k j v).length = M.length := by simp [putM]
theorem doM_len (s : Stm) (M : Mem) (x : List Int) : (doM s M x).length = M.length := by unfold doM; split <;> simp [putM_len]
theorem arrM_put_len (M : Mem) (k j : Nat) (v : Int) (i : Nat) : (arrM (putM M k j v) i).length = (arrM M i).length := by
  rw [arrM_put]
  split
  · rename_i h; rw [h.1]; simp
  · rfl
theorem doM_arr_len (s : Stm) (M : Mem) (x : List Int) (i : Nat) : (arrM (doM s M x) i).length = (arrM M i).length := by
  unfold doM
  split
  · exact arrM_put_len _ _ _ _ _
  · rfl
/-- All numbers are of 64 bits. -/
def B64 (x : Int) : Prop := -9223372036854775808 ≤ x ∧ x ≤ 9223372036854775807
def MemB (M : Mem) : Prop := ∀ k j : Nat, B64 ((arrM M k)[j]?.getD 0)
theorem ne_wrap_bd (n : Int) : B64 (IntKind.i64.wrap n) := by
  unfold B64
  simp only [IntKind.wrap, IntKind.bits, IntKind.signed]
  simp
  split <;> omega
theorem numV_bd {k val a b c was : Int} (hv : B64 val) (ha : B64 a) (hb : B64 b) (hc : B64 c) : B64 (numV k val a b c was) := by
  unfold numV
  repeat' split
  all_goals first | exact hv | exact ha | exact hb | exact hc | exact ne_wrap_bd _ | (unfold B64; omega)
theorem gotM_bd {M : Mem} (h : MemB M) (a : Acc) (x : List Int) : B64 (gotM M a x) := by
  unfold gotM
  split
  · exact h _ _
  · unfold B64; omega
theorem gotK_bd {M : Mem} (h : MemB M) (s : Stm) (x : List Int) (k : Nat) : B64 (gotK M s x k) := by
  unfold gotK
  split
  · exact gotM_bd h _ _
  · unfold B64; omega
theorem putM_bd {M : Mem} (h : MemB M) {v : Int} (hv : B64 v) (k j : Nat) : MemB (putM M k j v) := by
  intro k' j'
  rw [arrM_put]
  split
  · rw [List.getElem?_set]
    by_cases e : j = j'
    · subst e
      rw [if_pos rfl]
      split
      · exact hv
      · unfold B64; simp
    · rw [if_neg e]; exact h _ _
  · exact h _ _
theorem doM_bd {s : Stm} {M : Mem} (hv : B64 s.val) (h : MemB M) (x : List Int) : MemB (doM s M x) := by
  unfold doM
  split
  · exact putM_bd h (numV_bd hv (gotK_bd h _ _ _) (gotK_bd h _ _ _) (gotK_bd h _ _ _)) _ _
  · exact h
end Go.Proofs.Ytmmigbkilbfheaa.V
namespace Go.Proofs.Ytmmigbkilbfheaa.V
open Go.RowKit
set_option linter.unusedVariables false

theorem prod_nn : ∀ {xs : List Int}, (∀ x ∈ xs, 0 ≤ x) → 0 ≤ prod xs
  | [], _ => by simp [prod]
  | x :: xs, h => by
    simp only [prod]
    exact Int.mul_nonneg (h x (by simp)) (prod_nn (fun y hy => h y (by simp [hy])))
theorem BL_app (pre : List Int) : ∀ (n : Nat) (post : List Int), post.length = n → (∀ x ∈ pre ++ post, 0 ≤ x) → BL (pre ++ post) = (BL pre).flatMap (fun x => (BL post).map (x ++ ·))
  | 0, post, hn, h => by
    obtain rfl : post = [] := List.length_eq_zero_iff.1 hn
    have e : BL [] = [[]] := by simp [BL, prod, indexV]
    rw [List.append_nil, e]
    simp
  | n + 1, post, hn, h => by
    have hne : post ≠ [] := by intro e; rw [e] at hn; simp at hn
    obtain ⟨ds, d, rfl⟩ : ∃ ds d, post = ds ++ [d] := ⟨post.dropLast, post.getLast hne, (List.dropLast_concat_getLast hne).symm⟩
    have hd : 0 ≤ d := h d (by simp)
    rw [← List.append_assoc, BL_snoc (pre ++ ds) d hd (prod_nn (fun y hy => h y (by rcases List.mem_append.1 hy with hy | hy <;> simp [hy]))), BL_app pre n ds (by simpa using hn) (fun y hy => h y (by rcases List.mem_append.1 hy with hy | hy <;> simp [hy])),
      BL_snoc ds d hd (prod_nn (fun y hy => h y (by simp [hy]))), List.flatMap_assoc]
    apply flat_congr
    intro x _
    rw [List.flatMap_map, List.map_flatMap]
    apply flat_congr
    intro y _
    unfold more
    rw [List.map_map]
    apply List.map_congr_left
    intro r _
    simp
theorem BL_one (b : Nat) : BL [(b : Int)] = (List.range b).map (fun q : Nat => [(q : Int)]) := by
  have := BL_snoc [] (b : Int) (by omega) (by simp [prod])
  have e : BL [] = [[]] := by simp [BL, prod, indexV]
  rw [List.nil_append, e] at this
  rw [this]
  simp [more]
theorem BL_two (A s : Nat) (hs : 0 < s) : BL [(A : Int), (s : Int)] = (List.range (A * s)).map (fun q : Nat => [((q / s : Nat) : Int), ((q % s : Nat) : Int)]) := by
  have h := BL_snoc [(A : Int)] (s : Int) (by omega) (by simp [prod])
  have e : [(A : Int)] ++ [(s : Int)] = [(A : Int), (s : Int)] := rfl
  rw [e, BL_one] at h
  rw [h, List.flatMap_map, range_mul]
  apply flat_congr
  intro a _
  unfold more
  simp only [Int.toNat_natCast]
  apply List.map_congr_left
  intro c hc
  have hc' : c < s := by simpa using hc
  have h1 : (a * s + c) / s = a := by rw [Nat.mul_comm, Nat.mul_add_div hs, Nat.div_eq_of_lt hc']; omega
  have h2 : (a * s + c) % s = c := by rw [Nat.mul_comm, Nat.mul_add_mod]; exact Nat.mod_eq_of_lt hc'
  rw [h1, h2]
  rfl
/-- Two numbers put together. -/
def col (m : Nat) (s : Int) (x : List Int) : List Int := x.take m ++ (x[m]?.getD 0 * s + x[m + 1]?.getD 0) :: x.drop (m + 2)
theorem col_app (p : List Int) (a c s : Int) (z : List Int) : col p.length s (p ++ a :: c :: z) = p ++ (a * s + c) :: z := by
  unfold col
  simp
theorem strip_points (pre post : List Int) (A b s : Nat) (hs : 0 < s) (hb : b ≤ A * s) (h1 : ∀ x ∈ pre, 0 ≤ x) (h2 : ∀ x ∈ post, 0 ≤ x) :
    ((BL (pre ++ (A : Int) :: (s : Int) :: post)).filter (fun x => decide (x[pre.length]?.getD 0 * (s : Int) + x[pre.length + 1]?.getD 0 < (b : Int)))).map (col pre.length s) = BL (pre ++ (b : Int) :: post) := by
  have e1 : BL (pre ++ (A : Int) :: (s : Int) :: post) = (BL pre).flatMap (fun x => (BL ([(A : Int), (s : Int)] ++ post)).map (x ++ ·)) := BL_app pre _ _ rfl (fun x hx => by
    rcases List.mem_append.1 hx with hx | hx
    · exact h1 x hx
    · simp at hx
      rcases hx with rfl | rfl | hx
      · omega
      · omega
      · exact h2 x hx)
  have e2 : BL (pre ++ (b : Int) :: post) = (BL pre).flatMap (fun x => (BL ([(b : Int)] ++ post)).map (x ++ ·)) := BL_app pre _ _ rfl (fun x hx => by
    rcases List.mem_append.1 hx with hx | hx
    · exact h1 x hx
    · simp at hx
      rcases hx with rfl | hx
      · omega
      · exact h2 x hx)
  have e3 : BL ([(A : Int), (s : Int)] ++ post) = (BL [(A : Int), (s : Int)]).flatMap (fun x => (BL post).map (x ++ ·)) := BL_app _ _ _ rfl (fun x hx => by
    simp at hx
    rcases hx with rfl | rfl | hx
    · omega
    · omega
    · exact h2 x hx)
  have e4 : BL ([(b : Int)] ++ post) = (BL [(b : Int)]).flatMap (fun x => (BL post).map (x ++ ·)) := BL_app _ _ _ rfl (fun x hx => by
    simp at hx
    rcases hx with rfl | hx
    · omega
    · exact h2 x hx)
  rw [e1, e2, e3, e4, BL_two A s hs, BL_one, List.filter_flatMap, List.map_flatMap]
  apply flat_congr
  intro p hp
  have hpl : p.length = pre.length := by
    simp only [BL, List.mem_map] at hp
    obtain ⟨q, _, rfl⟩ := hp
    simp [indexV]
  rw [List.flatMap_map, List.flatMap_map, List.map_flatMap, List.map_flatMap, List.filter_flatMap, List.map_flatMap]
  have key : ∀ q : Nat, ((List.map (fun x => p ++ x) (List.map (fun x => [((q / s : Nat) : Int), ((q % s : Nat) : Int)] ++ x) (BL post))).filter (fun x => decide (x[pre.length]?.getD 0 * (s : Int) + x[pre.length + 1]?.getD 0 < (b : Int)))).map (col pre.length s) = if q < b then List.map (fun x => p ++ x) (List.map (fun x => [(q : Int)] ++ x) (BL post)) else [] := fun q => by
    have hq : ((q / s : Nat) : Int) * (s : Int) + ((q % s : Nat) : Int) = (q : Int) := by
      have := Nat.div_add_mod q s
      rw [← Int.natCast_mul, ← Int.natCast_add]
      congr 1
      rw [Nat.mul_comm]; exact this
    have hv : ∀ z : List Int, (p ++ ([((q / s : Nat) : Int), ((q % s : Nat) : Int)] ++ z))[pre.length]?.getD 0 * (s : Int) + (p ++ ([((q / s : Nat) : Int), ((q % s : Nat) : Int)] ++ z))[pre.length + 1]?.getD 0 = (q : Int) := fun z => by
      rw [← hpl]
      simp
      exact hq
    rw [List.map_map, List.map_map]
    by_cases h : q < b
    · rw [if_pos h, List.filter_eq_self.2 (fun x hx => ?_), List.map_map]
      · apply List.map_congr_left
        intro z _
        have := col_app p ((q / s : Nat) : Int) ((q % s : Nat) : Int) (s : Int) z
        rw [hpl, hq] at this
        exact this
      · obtain ⟨z, _, rfl⟩ := List.mem_map.1 hx
        have := hv z
        simp only [Function.comp_apply, this]
        simp; omega
    · rw [if_neg h, List.filter_eq_nil_iff.2 (fun x hx => ?_)]
      · rfl
      · obtain ⟨z, _, rfl⟩ := List.mem_map.1 hx
        have := hv z
        simp only [Function.comp_apply, this]
        simp; omega
  obtain ⟨r, hr⟩ : ∃ r, A * s = b + r := ⟨A * s - b, by omega⟩
  rw [flat_congr (g := fun q => if q < b then List.map (fun x => p ++ x) (List.map (fun x => [(q : Int)] ++ x) (BL post)) else []) (fun q _ => key q), hr, List.range_add, List.flatMap_append]
  have z1 : ((List.range r).map (fun x => b + x)).flatMap (fun q => if q < b then List.map (fun x => p ++ x) (List.map (fun x => [(q : Int)] ++ x) (BL post)) else []) = [] := by
    rw [List.flatMap_map]
    have : ∀ q ∈ List.range r, (if b + q < b then List.map (fun x => p ++ x) (List.map (fun x => [((b + q : Nat) : Int)] ++ x) (BL post)) else ([] : List (List Int))) = [] := fun q _ => by rw [if_neg (by omega)]
    rw [flat_congr this]
    simp
  rw [z1, List.append_nil]
  apply flat_congr
  intro q hq
  rw [if_pos (by simpa using hq)]
/-- A row with two numbers in the place of one. -/
def stripR (m : Nat) (s : Int) (r : List Int × Int) : List Int × Int := (r.1.take m ++ (r.1[m]?.getD 0 * s) :: r.1[m]?.getD 0 :: r.1.drop (m + 1), r.2)
theorem dotV_app : ∀ (a x : List Int) (b y : List Int), a.length = x.length → dotV (a ++ b) (x ++ y) = dotV a x + dotV b y
  | [], [], b, y, _ => by simp [dotV]
  | [], _ :: _, _, _, h => by simp at h
  | _ :: _, [], _, _, h => by simp at h
  | c :: cs, x :: xs, b, y, h => by
    simp only [List.cons_append, dotV]
    rw [dotV_app cs xs b y (by simpa using h)]
    omega
theorem worth_strip (r : List Int × Int) (m : Nat) (s : Int) (x : List Int) (hm : m < r.1.length) (hx : x.length = r.1.length + 1) : worthV (stripR m s r) x = worthV r (col m s x) := by
  obtain ⟨cp, k, cq, hc, hcl⟩ : ∃ cp k cq, r.1 = cp ++ k :: cq ∧ cp.length = m := ⟨r.1.take m, r.1[m], r.1.drop (m + 1), by simp, by simp; omega⟩
  obtain ⟨p, a, c, z, hp, hpl⟩ : ∃ p a c z, x = p ++ a :: c :: z ∧ p.length = m := ⟨x.take m, x[m]'(by omega), x[m + 1]'(by omega), x.drop (m + 2), by
    have h1 : x.drop m = x[m]'(by omega) :: x[m + 1]'(by omega) :: x.drop (m + 2) := by
      rw [List.drop_eq_getElem_cons (by omega), List.drop_eq_getElem_cons (i := m + 1) (by omega)]
    rw [← h1]; simp, by simp; omega⟩
  obtain ⟨rc, rk⟩ := r
  simp only at hc
  subst hc
  subst hp
  have e1 : stripR m s (cp ++ k :: cq, rk) = (cp ++ (k * s) :: k :: cq, rk) := by
    unfold stripR
    rw [← hcl]
    simp
  rw [e1, ← hpl, col_app]
  unfold worthV
  simp only
  rw [dotV_app cp p _ _ (by omega), dotV_app cp p _ _ (by omega)]
  simp only [dotV]
  have : k * s * a + (k * c + dotV cq z) = k * (a * s + c) + dotV cq z := by
    rw [Int.mul_add, Int.mul_assoc, Int.mul_comm s a]
    omega
  rw [this]
end Go.Proofs.Ytmmigbkilbfheaa.V
namespace Go.Proofs.Ytmmigbkilbfheaa.V
open Go.RowKit
set_option linter.unusedVariables false

/-- The last row of a stripped statement. -/
def lastR (pre post : List Int) (b s : Int) : List Int × Int := (pre.map (fun _ => 0) ++ (-s) :: (-1) :: post.map (fun _ => 0), b - 1)
theorem dotV_zero : ∀ (l x : List Int), dotV (l.map fun _ => 0) x = 0
  | [], _ => by simp [dotV]
  | _ :: _, [] => by simp [dotV]
  | c :: l, y :: x => by simp only [List.map_cons, dotV, dotV_zero l x]; omega
theorem worth_last (pre post p z : List Int) (a c b s : Int) (hp : p.length = pre.length) : worthV (lastR pre post b s) (p ++ a :: c :: z) = b - 1 - (a * s + c) := by
  unfold worthV lastR
  simp only
  rw [dotV_app _ p _ _ (by simp [hp]), dotV_zero]
  simp only [dotV, dotV_zero]
  rw [Int.mul_comm a s, Int.neg_mul]
  omega
def stripA (m : Nat) (s : Int) (a : Acc) : Acc := (a.1, stripR m s a.2)
theorem filter_map_comm {α β : Type} (l : List α) (f : α → β) (p : β → Bool) : (l.map f).filter p = (l.filter (fun x => p (f x))).map f := by
  induction l with
  | nil => rfl
  | cons x l ih =>
    simp only [List.map_cons, List.filter_cons, ih]
    split <;> simp
theorem filter_and {α : Type} (l : List α) (p q : α → Bool) : l.filter (fun x => p x && q x) = (l.filter q).filter p := by
  rw [List.filter_filter]
theorem filter_cong {α : Type} {l : List α} {p q : α → Bool} (h : ∀ x ∈ l, p x = q x) : l.filter p = l.filter q := List.filter_congr h
/-- The points of a stripped statement, put together, are the points. -/
theorem strip_pts (pre post : List Int) (A b s : Nat) (rows : List (List Int × Int)) (hs : 0 < s) (hb : b ≤ A * s) (h1 : ∀ x ∈ pre, 0 ≤ x) (h2 : ∀ x ∈ post, 0 ≤ x) (hr : ∀ r ∈ rows, r.1.length = (pre ++ (b : Int) :: post).length) :
    (pts (pre ++ (A : Int) :: (s : Int) :: post) (rows.map (stripR pre.length s) ++ [lastR pre post b s])).map (col pre.length s) = pts (pre ++ (b : Int) :: post) rows ∧
    ∀ x ∈ pts (pre ++ (A : Int) :: (s : Int) :: post) (rows.map (stripR pre.length s) ++ [lastR pre post b s]), x.length = (pre ++ (b : Int) :: post).length + 1 := by
  have hl : ∀ x ∈ BL (pre ++ (A : Int) :: (s : Int) :: post), x.length = (pre ++ (b : Int) :: post).length + 1 := fun x hx => by
    simp only [BL, List.mem_map] at hx
    obtain ⟨q, _, rfl⟩ := hx
    simp [indexV]
    omega
  refine ⟨?_, fun x hx => ?_⟩
  · rw [BL_filter, BL_filter, ← strip_points pre post A b s hs hb h1 h2, filter_map_comm, ← filter_and]
    congr 1
    apply filter_cong
    intro x hx
    have hxl := hl x hx
    obtain ⟨p, a, c, z, hp, hpl⟩ : ∃ p a c z, x = p ++ a :: c :: z ∧ p.length = pre.length := by
      have hlt : pre.length + 1 < x.length := by rw [hxl]; simp
      refine ⟨x.take pre.length, x[pre.length]'(by omega), x[pre.length + 1]'(by omega), x.drop (pre.length + 2), ?_, by simp; omega⟩
      have e : x.drop pre.length = x[pre.length]'(by omega) :: x[pre.length + 1]'(by omega) :: x.drop (pre.length + 2) := by
        rw [List.drop_eq_getElem_cons (by omega), List.drop_eq_getElem_cons (i := pre.length + 1) (by omega)]
      rw [← e]; simp
    unfold aboveB
    rw [List.all_append, List.all_map]
    congr 1
    · rw [Bool.eq_iff_iff, List.all_eq_true, List.all_eq_true]
      constructor
      · intro h r hr'
        have := h r hr'
        simp only [Function.comp_apply] at this
        rw [worth_strip r pre.length s x (by rw [hr r hr']; simp) (by rw [hr r hr']; exact hxl)] at this
        exact this
      · intro h r hr'
        simp only [Function.comp_apply]
        rw [worth_strip r pre.length s x (by rw [hr r hr']; simp) (by rw [hr r hr']; exact hxl)]
        exact h r hr'
    · simp only [List.all_cons, List.all_nil, Bool.and_true]
      rw [hp, worth_last pre post p z a c b s hpl]
      have e1 : (p ++ a :: c :: z)[pre.length]?.getD 0 = a := by rw [← hpl]; simp
      have e2 : (p ++ a :: c :: z)[pre.length + 1]?.getD 0 = c := by rw [← hpl]; simp
      rw [e1, e2, decide_eq_decide]
      omega
  · rw [BL_filter] at hx
    exact hl x (List.mem_filter.1 hx).1
/-- Two statements that do the same: with as many strips of a size as it takes. -/
theorem strip_stm (s t : Stm) (pre post : List Int) (A b n : Nat) (hn : 0 < n) (hb : b ≤ A * n) (h1 : ∀ x ∈ pre, 0 ≤ x) (h2 : ∀ x ∈ post, 0 ≤ x) (hsb : s.box = pre ++ (b : Int) :: post) (htb : t.box = pre ++ (A : Int) :: (n : Int) :: post)
    (hr : ∀ r ∈ s.rows, r.1.length = s.box.length) (htr : t.rows = s.rows.map (stripR pre.length n) ++ [lastR pre post b n]) (hk : t.kind = s.kind) (hv : t.val = s.val) (hp : s.put.2.1.length = s.box.length) (htp : t.put = stripA pre.length n s.put)
    (hg : ∀ g ∈ s.gets, g.2.1.length = s.box.length) (htg : t.gets = s.gets.map (stripA pre.length n)) (M : Mem) : stmM M t = stmM M s := by
  obtain ⟨e, hl⟩ := strip_pts pre post A b n s.rows hn hb h1 h2 (by rw [← hsb]; exact hr)
  unfold stmM
  rw [hsb, ← e, htb, htr, List.foldl_map]
  have hlt : pre.length < s.box.length := by rw [hsb]; simp
  have step : ∀ N x, x.length = (pre ++ (b : Int) :: post).length + 1 → doM t N x = doM s N (col pre.length n x) := fun N x hx => by
    have hx' : x.length = s.box.length + 1 := by rw [hsb]; exact hx
    have wa : ∀ a : Acc, a.2.1.length = s.box.length → worthV (stripA pre.length n a).2 x = worthV a.2 (col pre.length n x) := fun a ha => worth_strip a.2 pre.length n x (by omega) (by omega)
    have ia : ∀ a : Acc, a.2.1.length = s.box.length → (inM N (stripA pre.length n a) x ↔ inM N a (col pre.length n x)) := fun a ha => by
      unfold inM
      rw [wa a ha]
      rfl
    have ga : ∀ a : Acc, a.2.1.length = s.box.length → gotM N (stripA pre.length n a) x = gotM N a (col pre.length n x) := fun a ha => by
      unfold gotM
      by_cases h : inM N a (col pre.length n x)
      · rw [if_pos h, if_pos ((ia a ha).2 h), wa a ha]
        rfl
      · rw [if_neg h, if_neg (fun h' => h ((ia a ha).1 h'))]
    have gk : ∀ i, gotK N t x i = gotK N s (col pre.length n x) i := fun i => by
      unfold gotK
      rw [htg, List.length_map]
      by_cases hi : i < s.gets.length
      · rw [if_pos hi, if_pos hi]
        have e1 : (s.gets.map (stripA pre.length n))[i]?.getD accD = stripA pre.length n (s.gets[i]?.getD accD) := by simp [hi]
        rw [e1]
        exact ga _ (hg _ (by simp [hi]))
      · rw [if_neg hi, if_neg hi]
    have nm : newM N t x = newM N s (col pre.length n x) := by
      unfold newM
      rw [gk, gk, gk, hk, hv, htp, ga _ hp]
    unfold doM
    rw [htp, nm]
    by_cases h : inM N s.put (col pre.length n x)
    · rw [if_pos h, if_pos ((ia _ hp).2 h), wa _ hp]
      rfl
    · rw [if_neg h, if_neg (fun h' => h ((ia _ hp).1 h'))]
  generalize hP : pts (pre ++ (A : Int) :: (n : Int) :: post) (s.rows.map (stripR pre.length n) ++ [lastR pre post b n]) = P at hl ⊢
  clear hP e
  induction P generalizing M with
  | nil => rfl
  | cons x P ih =>
    rw [List.foldl_cons, List.foldl_cons, step M x (hl x (by simp))]
    exact ih _ (fun y hy => hl y (by simp [hy]))
end Go.Proofs.Ytmmigbkilbfheaa.V
namespace Go.Proofs.Ytmmigbkilbfheaa.V
open Go.RowKit
set_option linter.unusedVariables false

/-- What hangs on the lengths of the arrays alone. -/
def SameLen (M N : Mem) : Prop := M.length = N.length ∧ ∀ i, (arrM M i).length = (arrM N i).length
theorem SameLen.refl (M : Mem) : SameLen M M := ⟨rfl, fun _ => rfl⟩
theorem SameLen.trans {M N P : Mem} (h : SameLen M N) (k : SameLen N P) : SameLen M P := ⟨h.1.trans k.1, fun i => (h.2 i).trans (k.2 i)⟩
theorem SameLen.symm {M N : Mem} (h : SameLen M N) : SameLen N M := ⟨h.1.symm, fun i => (h.2 i).symm⟩
theorem doM_same (s : Stm) (M : Mem) (x : List Int) : SameLen (doM s M x) M := ⟨doM_len s M x, doM_arr_len s M x⟩
theorem inM_same {M N : Mem} (h : SameLen M N) (a : Acc) (x : List Int) : inM M a x ↔ inM N a x := by unfold inM; rw [h.2]
theorem putM_same (M : Mem) (k j : Nat) (v : Int) : SameLen (putM M k j v) M := ⟨putM_len M k j v, arrM_put_len M k j v⟩

/-- Two spots are in each other's way. -/
def clash (M : Mem) (s t : Stm) (x y : List Int) : Prop :=
  (inM M s.put x ∧ inM M t.put y) ∧
  ((s.put.1 = t.put.1 ∧ worthV s.put.2 x = worthV t.put.2 y ∧ ¬ (9 ≤ s.kind ∧ 9 ≤ t.kind)) ∨
   (∃ g ∈ t.gets, g.1 = s.put.1 ∧ inM M g y ∧ worthV g.2 y = worthV s.put.2 x) ∨
   (∃ g ∈ s.gets, g.1 = t.put.1 ∧ inM M g x ∧ worthV g.2 x = worthV t.put.2 y))
theorem clash_same {M N : Mem} (h : SameLen M N) (s t : Stm) (x y : List Int) : clash M s t x y ↔ clash N s t x y := by
  unfold clash
  simp only [inM_same h]

/-- What is got elsewhere than where it was put is what it was. -/
theorem gotM_other {M : Mem} {k q : Nat} {v : Int} {g : Acc} {x : List Int} (h : ¬ (g.1.toNat = k ∧ inM M g x ∧ (worthV g.2 x).toNat = q)) : gotM (putM M k q v) g x = gotM M g x := by
  unfold gotM
  have hc := inM_same (putM_same M k q v) g x
  by_cases hi : inM M g x
  · rw [if_pos (hc.2 hi), if_pos hi, arrM_put]
    by_cases e : g.1.toNat = k ∧ k < M.length
    · rw [if_pos e, List.getElem?_set, if_neg (fun e2 => h ⟨e.1, hi, e2.symm⟩), e.1]
    · rw [if_neg e]
  · rw [if_neg (fun hh => hi (hc.1 hh)), if_neg hi]
theorem gotM_here {M : Mem} {g : Acc} {x : List Int} {v : Int} (hi : inM M g x) (hk : g.1.toNat < M.length) : gotM (putM M g.1.toNat (worthV g.2 x).toNat v) g x = v := by
  unfold gotM
  rw [if_pos ((inM_same (putM_same M _ _ v) g x).2 hi), arrM_put, if_pos ⟨rfl, hk⟩, List.getElem?_set, if_pos rfl, if_pos (by have := hi.1; have := hi.2; omega)]
  rfl
theorem gotK_other {M : Mem} {k q : Nat} {v : Int} {s : Stm} {x : List Int} (h : ∀ g ∈ s.gets, ¬ (g.1.toNat = k ∧ inM M g x ∧ (worthV g.2 x).toNat = q)) (i : Nat) : gotK (putM M k q v) s x i = gotK M s x i := by
  unfold gotK
  by_cases hi : i < s.gets.length
  · rw [if_pos hi, if_pos hi]
    exact gotM_other (h _ (by simp [hi]))
  · rw [if_neg hi, if_neg hi]
theorem putM_comm (M : Mem) {k l p q : Nat} (v u : Int) (h : ¬ (k = l ∧ p = q)) : putM (putM M k p v) l q u = putM (putM M l q u) k p v := by
  apply List.ext_getElem?
  intro i
  have e : ∀ (A : Mem), A[i]? = if i < A.length then some (arrM A i) else none := fun A => by
    unfold arrM
    by_cases hi : i < A.length
    · simp [hi]
    · rw [if_neg hi, List.getElem?_eq_none (by omega)]
  rw [e, e, putM_len, putM_len, putM_len, putM_len]
  by_cases hi : i < M.length
  · rw [if_pos hi, if_pos hi]
    congr 1
    rw [arrM_put, arrM_put, arrM_put, arrM_put, putM_len, putM_len]
    by_cases h1 : i = l
    · by_cases h2 : i = k
      · have hkl : k = l := h2.symm.trans h1
        subst h1
        subst h2
        have hpq : p ≠ q := fun e => h ⟨rfl, e⟩
        simp only [arrM_put, hi, and_self, if_true]
        exact List.set_comm _ _ hpq
      · subst h1
        simp [hi, h2, arrM_put]
    · by_cases h2 : i = k
      · subst h2
        simp [hi, h1, arrM_put]
      · simp [h1, h2, arrM_put]
  · rw [if_neg hi, if_neg hi]
theorem putM_twice (M : Mem) (k p : Nat) (v u : Int) : putM (putM M k p v) k p u = putM M k p u := by
  unfold putM
  by_cases hk : k < M.length
  · have e : arrM (M.set k ((arrM M k).set p v)) k = (arrM M k).set p v := by
      have := arrM_put M k p v k
      unfold putM at this
      rw [this, if_pos ⟨rfl, hk⟩]
    rw [e]
    simp
  · have hh : ∀ z, M.set k z = M := fun z => List.set_eq_of_length_le (by omega)
    simp only [hh]
theorem wrap_add_left (a b : Int) : IntKind.i64.wrap (IntKind.i64.wrap a + b) = IntKind.i64.wrap (a + b) := by
  simp only [IntKind.wrap, IntKind.bits, IntKind.signed]
  simp
  split <;> split <;> split <;> omega
theorem numV_add {k val a b c was : Int} (h9 : 9 ≤ k) (h10 : k ≤ 10) : numV k val a b c was = IntKind.i64.wrap (was + (if k = 9 then a else IntKind.i64.wrap (a * b))) := by
  have : k = 9 ∨ k = 10 := by omega
  rcases this with rfl | rfl <;> simp [numV]
/-- Statements that are not in each other's way change places. -/
theorem doM_comm {M : Mem} {s t : Stm} {x y : List Int} (hs : StmOk M.length s) (ht : StmOk M.length t) (h : ¬ clash M s t x y) : doM s (doM t M y) x = doM t (doM s M x) y := by
  by_cases h1 : inM M s.put x
  · by_cases h2 : inM M t.put y
    · have hn : ¬ ((s.put.1 = t.put.1 ∧ worthV s.put.2 x = worthV t.put.2 y ∧ ¬ (9 ≤ s.kind ∧ 9 ≤ t.kind)) ∨ (∃ g ∈ t.gets, g.1 = s.put.1 ∧ inM M g y ∧ worthV g.2 y = worthV s.put.2 x) ∨ (∃ g ∈ s.gets, g.1 = t.put.1 ∧ inM M g x ∧ worthV g.2 x = worthV t.put.2 y)) := fun hh => h ⟨⟨h1, h2⟩, hh⟩
      rw [not_or, not_or] at hn
      obtain ⟨n1, n2, n3⟩ := hn
      have a1 := hs.put.arr
      have a2 := ht.put.arr
      have hks : s.put.1.toNat < M.length := by omega
      have hkt : t.put.1.toNat < M.length := by omega
      have gs : ∀ v, ∀ i, gotK (putM M t.put.1.toNat (worthV t.put.2 y).toNat v) s x i = gotK M s x i := fun v i => gotK_other (fun g hg hh => n3 ⟨g, hg, by have := (hs.gets g hg).arr; omega, hh.2.1, by have := hh.2.1.1; have := h2.1; omega⟩) i
      have gt : ∀ v, ∀ i, gotK (putM M s.put.1.toNat (worthV s.put.2 x).toNat v) t y i = gotK M t y i := fun v i => gotK_other (fun g hg hh => n2 ⟨g, hg, by have := (ht.gets g hg).arr; omega, hh.2.1, by have := hh.2.1.1; have := h1.1; omega⟩) i
      have dt : doM t M y = putM M t.put.1.toNat (worthV t.put.2 y).toNat (newM M t y) := by unfold doM; rw [if_pos h2]
      have ds : doM s M x = putM M s.put.1.toNat (worthV s.put.2 x).toNat (newM M s x) := by unfold doM; rw [if_pos h1]
      rw [dt, ds]
      have i1 : inM (putM M t.put.1.toNat (worthV t.put.2 y).toNat (newM M t y)) s.put x := (inM_same (putM_same _ _ _ _) _ _).2 h1
      have i2 : inM (putM M s.put.1.toNat (worthV s.put.2 x).toNat (newM M s x)) t.put y := (inM_same (putM_same _ _ _ _) _ _).2 h2
      unfold doM
      rw [if_pos i1, if_pos i2]
      by_cases e : s.put.1.toNat = t.put.1.toNat ∧ (worthV s.put.2 x).toNat = (worthV t.put.2 y).toNat
      · have ea : s.put.1 = t.put.1 := by omega
        have ew : worthV s.put.2 x = worthV t.put.2 y := by have := h1.1; have := h2.1; omega
        have hk : 9 ≤ s.kind ∧ 9 ≤ t.kind := by
          by_cases hk : 9 ≤ s.kind ∧ 9 ≤ t.kind
          · exact hk
          · exact absurd ⟨ea, ew, hk⟩ n1
        have b1 : s.kind ≤ 10 := by
          have := hs.takes
          by_cases hb : s.kind ≤ 10
          · exact hb
          · rw [takes_none (by omega)] at this; omega
        have b2 : t.kind ≤ 10 := by
          have := ht.takes
          by_cases hb : t.kind ≤ 10
          · exact hb
          · rw [takes_none (by omega)] at this; omega
        have w1 : gotM (putM M t.put.1.toNat (worthV t.put.2 y).toNat (newM M t y)) s.put x = newM M t y := by
          rw [← e.1, ← e.2]; exact gotM_here h1 hks
        have w2 : gotM (putM M s.put.1.toNat (worthV s.put.2 x).toNat (newM M s x)) t.put y = newM M s x := by
          rw [e.1, e.2]; exact gotM_here h2 hkt
        have g0 : gotM M s.put x = gotM M t.put y := by
          unfold gotM
          rw [if_pos h1, if_pos h2, e.1, e.2]
        have v1 : newM (putM M t.put.1.toNat (worthV t.put.2 y).toNat (newM M t y)) s x = IntKind.i64.wrap (newM M t y + (if s.kind = 9 then gotK M s x 0 else IntKind.i64.wrap (gotK M s x 0 * gotK M s x 1))) := by
          have hv : ∀ N, newM N s x = numV s.kind s.val (gotK N s x 0) (gotK N s x 1) (gotK N s x 2) (gotM N s.put x) := fun _ => rfl
          rw [hv, numV_add hk.1 b1, gs, gs, w1]
        have v2 : newM (putM M s.put.1.toNat (worthV s.put.2 x).toNat (newM M s x)) t y = IntKind.i64.wrap (newM M s x + (if t.kind = 9 then gotK M t y 0 else IntKind.i64.wrap (gotK M t y 0 * gotK M t y 1))) := by
          have hv : ∀ N, newM N t y = numV t.kind t.val (gotK N t y 0) (gotK N t y 1) (gotK N t y 2) (gotM N t.put y) := fun _ => rfl
          rw [hv, numV_add hk.2 b2, gt, gt, w2]
        have u1 : newM M s x = IntKind.i64.wrap (gotM M s.put x + (if s.kind = 9 then gotK M s x 0 else IntKind.i64.wrap (gotK M s x 0 * gotK M s x 1))) := numV_add hk.1 b1
        have u2 : newM M t y = IntKind.i64.wrap (gotM M t.put y + (if t.kind = 9 then gotK M t y 0 else IntKind.i64.wrap (gotK M t y 0 * gotK M t y 1))) := numV_add hk.2 b2
        rw [v1, v2, ← e.1, ← e.2, putM_twice, putM_twice, u1, u2, wrap_add_left, wrap_add_left, g0]
        congr 2
        omega
      · have w1 : newM (putM M t.put.1.toNat (worthV t.put.2 y).toNat (newM M t y)) s x = newM M s x := by
          unfold newM
          rw [gs, gs, gs, gotM_other (fun hh => e ⟨hh.1, hh.2.2⟩)]
        have w2 : newM (putM M s.put.1.toNat (worthV s.put.2 x).toNat (newM M s x)) t y = newM M t y := by
          unfold newM
          rw [gt, gt, gt, gotM_other (fun hh => e ⟨hh.1.symm, hh.2.2.symm⟩)]
        rw [w1, w2]
        exact putM_comm M _ _ (fun hh => e ⟨hh.1.symm, hh.2.symm⟩)
    · have e2 : ∀ N, SameLen N M → doM t N y = N := fun N hN => by unfold doM; rw [if_neg (fun hh => h2 ((inM_same hN _ _).1 hh))]
      rw [e2 M (SameLen.refl _), e2 _ (doM_same s M x)]
  · have e1 : ∀ N, SameLen N M → doM s N x = N := fun N hN => by unfold doM; rw [if_neg (fun hh => h1 ((inM_same hN _ _).1 hh))]
    rw [e1 M (SameLen.refl _), e1 _ (doM_same t M y)]

/-- What is not in the way of all that stand ahead of it can be done first. -/
theorem fold_front {α β : Type} (f : β → α → β) (Good : β → Prop) (hG : ∀ b a, Good b → Good (f b a)) (a : α) (post : List α) : ∀ (pre : List α) (M : β), Good M → (∀ b ∈ pre, ∀ N, Good N → f (f N b) a = f (f N a) b) → (pre ++ a :: post).foldl f M = (pre ++ post).foldl f (f M a)
  | [], M, _, _ => rfl
  | b :: pre, M, hM, h => by
    rw [List.cons_append, List.foldl_cons, fold_front f Good hG a post pre (f M b) (hG _ _ hM) (fun b' hb' => h b' (by simp [hb'])), List.cons_append, List.foldl_cons, h b (by simp) M hM]
end Go.Proofs.Ytmmigbkilbfheaa.V
