/-
  Points: the mathematics of chapter 9.
-/
import Derived.Test.YtindmfpfpooijaaIndexAny
import Derived.Test.YtindmfpfpooijaaMath
namespace Go.Proofs.Ytindmfpfpooijaa.V
open Go.RowKit
set_option linter.unusedVariables false

/-- The sum of the products. -/
def dotV : List Int → List Int → Int
  | c :: cs, x :: xs => c * x + dotV cs xs
  | _, _ => 0
/-- A row's number. -/
def worthV (r : List Int × Int) (xs : List Int) : Int := r.2 + dotV r.1 xs
def aboveB (rs : List (List Int × Int)) (xs : List Int) : Bool := rs.all fun r => decide (0 ≤ worthV r xs)
def ptFar (n : Int) : Bool := decide (n < -1048576) || decide (1048576 < n)
/-- What is wrong with a row. -/
def rowE (r : List Int × Int) (many : Nat) : Int := if r.1.length ≠ many then 6 else if (ptFar r.2 || r.1.any ptFar) = true then 4 else 0
/-- What is wrong with a box. -/
def boxE (box : List Int) : Int := if 4 < box.length then 3 else if box.any badDim = true then 4 else if 4096 < prod box then 5 else 0
/-- What is wrong with the first row that is not right. -/
def rowsE : List (List Int × Int) → Nat → Int
  | [], _ => 0
  | r :: rs, many => if rowE r many ≠ 0 then rowE r many else rowsE rs many
/-- What is wrong with a description of points. -/
def ptE (box : List Int) (rs : List (List Int × Int)) : Int := if boxE box ≠ 0 then boxE box else if 8 < rs.length then 2 else rowsE rs box.length

theorem dotV_take (cs xs : List Int) : ∀ k, k < cs.length → k < xs.length → dotV (cs.take (k + 1)) (xs.take (k + 1)) = dotV (cs.take k) (xs.take k) + cs[k]?.getD 0 * xs[k]?.getD 0 := by
  induction cs generalizing xs with
  | nil => intro k h; simp at h
  | cons c cs ih =>
    intro k h1 h2
    cases xs with
    | nil => simp at h2
    | cons x xs =>
      cases k with
      | zero => simp [dotV]
      | succ k =>
        have := ih xs k (by simpa using h1) (by simpa using h2)
        simp only [List.take_succ_cons, dotV, this, List.getElem?_cons_succ]
        omega
theorem pt_mul_bd {a b : Int} (ha : -1048576 ≤ a ∧ a ≤ 1048576) (hb : 0 ≤ b ∧ b ≤ 4096) : -4294967296 ≤ a * b ∧ a * b ≤ 4294967296 := by
  have h1 : a * b ≤ 1048576 * b := Int.mul_le_mul_of_nonneg_right ha.2 hb.1
  have h2 : -1048576 * b ≤ a * b := Int.mul_le_mul_of_nonneg_right ha.1 hb.1
  omega
theorem dotV_bd : ∀ (cs xs : List Int), (∀ c ∈ cs, -1048576 ≤ c ∧ c ≤ 1048576) → (∀ x ∈ xs, 0 ≤ x ∧ x ≤ 4096) → -(4294967296 * (cs.length : Int)) ≤ dotV cs xs ∧ dotV cs xs ≤ 4294967296 * (cs.length : Int)
  | [], _, _, _ => by simp [dotV]
  | c :: cs, [], h1, _ => by simp [dotV]; omega
  | c :: cs, x :: xs, h1, h2 => by
    have a := pt_mul_bd (h1 c (by simp)) (h2 x (by simp))
    have b := dotV_bd cs xs (fun c hc => h1 c (by simp [hc])) (fun x hx => h2 x (by simp [hx]))
    simp only [dotV, List.length_cons]
    omega
theorem ptFar_no {n : Int} (h : ptFar n = false) : -1048576 ≤ n ∧ n ≤ 1048576 := by
  simp [ptFar] at h; omega
theorem rowE_ok {r : List Int × Int} {many : Nat} (h : rowE r many = 0) : r.1.length = many ∧ (-1048576 ≤ r.2 ∧ r.2 ≤ 1048576) ∧ ∀ c ∈ r.1, -1048576 ≤ c ∧ c ≤ 1048576 := by
  unfold rowE at h
  by_cases h1 : r.1.length ≠ many
  · simp [h1] at h
  · rw [if_neg h1] at h
    by_cases h2 : (ptFar r.2 || r.1.any ptFar) = true
    · simp [h2] at h
    · have h2' : (ptFar r.2 || r.1.any ptFar) = false := by simpa using h2
      rw [Bool.or_eq_false_iff] at h2'
      refine ⟨by simpa using h1, ptFar_no h2'.1, fun c hc => ptFar_no ?_⟩
      have := List.any_eq_false.1 h2'.2 c hc
      simpa using this
theorem rowsE_ok : ∀ {rs : List (List Int × Int)} {many : Nat}, rowsE rs many = 0 → ∀ r ∈ rs, rowE r many = 0
  | [], _, _, r, hr => by simp at hr
  | q :: rs, many, h, r, hr => by
    simp only [rowsE] at h
    by_cases h1 : rowE q many ≠ 0
    · rw [if_pos h1] at h; exact absurd h h1
    · rw [if_neg h1] at h
      rcases List.mem_cons.1 hr with rfl | hr
      · simpa using h1
      · exact rowsE_ok h r hr
theorem pt_prod_zero : ∀ {xs : List Int}, (0 : Int) ∈ xs → prod xs = 0
  | x :: xs, h => by
    rcases List.mem_cons.1 h with e | h
    · simp [prod, ← e]
    · simp [prod, pt_prod_zero h]
theorem boxE_ok {box : List Int} (h : boxE box = 0) : box.length ≤ 4 ∧ (∀ x ∈ box, 0 ≤ x ∧ x ≤ 4096) ∧ prod box ≤ 4096 ∧ sizeE box = 0 ∧ sizeN box = prod box ∧ 0 ≤ prod box := by
  unfold boxE at h
  by_cases h1 : 4 < box.length
  · simp [h1] at h
  rw [if_neg h1] at h
  by_cases h2 : box.any badDim = true
  · simp [h2] at h
  rw [if_neg h2] at h
  by_cases h3 : 4096 < prod box
  · simp [h3] at h
  have h2' : box.any badDim = false := by simpa using h2
  have hx : ∀ x ∈ box, 0 ≤ x ∧ x ≤ 4096 := by
    intro x hx
    have := List.any_eq_false.1 h2' x hx
    simp [badDim] at this
    omega
  have e1 : sizeE box = if (0 : Int) ∈ box then 0 else if 65536 < prod box then 5 else 0 := by
    unfold sizeE; rw [if_neg (by omega), if_neg h2]
  have e2 : sizeN box = if (0 : Int) ∈ box then 0 else if 65536 < prod box then 0 else prod box := by
    unfold sizeN; rw [if_neg (by omega), if_neg h2]
  refine ⟨by omega, hx, by omega, ?_, ?_, ?_⟩
  · rw [e1]; split <;> simp; omega
  · rw [e2]
    by_cases hz : (0 : Int) ∈ box
    · rw [if_pos hz, pt_prod_zero hz]
    · rw [if_neg hz, if_neg (by omega)]
  · by_cases hz : (0 : Int) ∈ box
    · rw [pt_prod_zero hz]; omega
    · have := prod_pos box (fun x hx' => by
        have := hx x hx'
        have : x ≠ 0 := fun e => hz (e ▸ hx')
        omega)
      omega
/-- What is right with a description of points. -/
structure PtOk (box : List Int) (rs : List (List Int × Int)) : Prop where
  rank : box.length ≤ 4
  dims : ∀ x ∈ box, 0 ≤ x ∧ x ≤ 4096
  size : prod box ≤ 4096 ∧ sizeE box = 0 ∧ sizeN box = prod box ∧ 0 ≤ prod box
  many : rs.length ≤ 8
  rows : ∀ r ∈ rs, r.1.length = box.length ∧ (-1048576 ≤ r.2 ∧ r.2 ≤ 1048576) ∧ ∀ c ∈ r.1, -1048576 ≤ c ∧ c ≤ 1048576
theorem ptE_ok {box : List Int} {rs : List (List Int × Int)} (h : ptE box rs = 0) : PtOk box rs := by
  unfold ptE at h
  by_cases h1 : boxE box ≠ 0
  · rw [if_pos h1] at h; exact absurd h h1
  rw [if_neg h1] at h
  by_cases h2 : 8 < rs.length
  · rw [if_pos h2] at h; omega
  rw [if_neg h2] at h
  have h1' : boxE box = 0 := by simpa using h1
  obtain ⟨a, b, c, d, e, f⟩ := boxE_ok h1'
  exact ⟨a, b, ⟨c, d, e, f⟩, by omega, fun r hr => rowE_ok (rowsE_ok h r hr)⟩

/-- The points among the first k places. -/
def upto (box : List Int) (rs : List (List Int × Int)) (k : Nat) : List (List Int) := (((List.range k).map fun p : Nat => indexV box p)).filter (aboveB rs)
def pts (box : List Int) (rs : List (List Int × Int)) : List (List Int) := upto box rs (prod box).toNat
theorem upto_zero (box : List Int) (rs : List (List Int × Int)) : upto box rs 0 = [] := rfl
theorem upto_succ (box : List Int) (rs : List (List Int × Int)) (k : Nat) : upto box rs (k + 1) = upto box rs k ++ (if aboveB rs (indexV box k) = true then [indexV box k] else []) := by
  unfold upto
  rw [List.range_succ, List.map_append, List.filter_append]
  congr 1
  simp only [List.map_cons, List.map_nil, List.filter_cons, List.filter_nil]
theorem upto_pts (box : List Int) (rs : List (List Int × Int)) (k : Nat) (h : k ≤ (prod box).toNat) : ∃ post, pts box rs = upto box rs k ++ post := by
  have e : (prod box).toNat = k + ((prod box).toNat - k) := by omega
  refine ⟨(((List.range' k ((prod box).toNat - k)).map fun p : Nat => indexV box p)).filter (aboveB rs), ?_⟩
  unfold pts upto
  rw [← List.filter_append, ← List.map_append]
  congr 2
  rw [List.range_eq_range', List.range_eq_range']
  conv => lhs; rw [e]
  have := List.range'_append (s := 0) (m := k) (n := (prod box).toNat - k) (step := 1)
  simpa using this.symm
theorem upto_here {box : List Int} {rs : List (List Int × Int)} {k : Nat} (h : k < (prod box).toNat) (ha : aboveB rs (indexV box k) = true) : ∃ post, pts box rs = upto box rs k ++ indexV box k :: post := by
  obtain ⟨post, e⟩ := upto_pts box rs (k + 1) (by omega)
  rw [upto_succ, if_pos ha, List.append_assoc] at e
  exact ⟨post, e⟩
theorem upto_len (box : List Int) (rs : List (List Int × Int)) (k : Nat) : (upto box rs k).length ≤ k := by
  unfold upto
  exact Nat.le_trans (List.length_filter_le _ _) (by simp)
theorem index_bd {box : List Int} {rs : List (List Int × Int)} (ho : PtOk box rs) {p : Nat} (hp : p < (prod box).toNat) : (∀ x ∈ indexV box p, 0 ≤ x ∧ x ≤ 4096) ∧ (indexV box p).length = box.length := by
  have hg := (index_good (xs := box) (p := p) ho.size.2.1 (by omega) (by rw [ho.size.2.2.1]; omega)).1
  refine ⟨fun x hx => ?_, by simp [indexV]⟩
  simp only [indexV, List.mem_map, List.mem_range] at hx
  obtain ⟨k, hk, rfl⟩ := hx
  have h1 := idxV_bd (p := (p : Int)) (fun x hx => (hg x hx).1) hk
  have h2 := hg _ (mem_getD box k hk)
  omega
theorem pts_mem {box : List Int} {rs : List (List Int × Int)} {x : List Int} (h : x ∈ pts box rs) : ∃ p : Nat, p < (prod box).toNat ∧ x = indexV box p ∧ aboveB rs x = true := by
  unfold pts upto at h
  rw [List.mem_filter, List.mem_map] at h
  obtain ⟨⟨p, hp, rfl⟩, ha⟩ := h
  exact ⟨p, by simpa using hp, rfl, ha⟩
theorem pts_len {box : List Int} {rs : List (List Int × Int)} (ho : PtOk box rs) : (pts box rs).length ≤ 4096 := by
  have h1 := upto_len box rs (prod box).toNat
  have h2 := ho.size.1
  unfold pts
  omega
end Go.Proofs.Ytindmfpfpooijaa.V
