/-
  Orders: strips: two numbers in the place of one, the same points in the same order. Orders: a stripped statement does what it did.
-/
import Derived.Test.YtoidgdbgpbcebaaK8
import Derived.Test.YtoidgdbgpbcebaaK7
namespace Go.Proofs.Ytoidgdbgpbcebaa.V
open Go.RowKit
set_option linter.unusedVariables false

theorem prod_nn : ∀ {xs : List Int}, (∀ x ∈ xs, 0 ≤ x) → 0 ≤ prod xs
  | [], _ => by simp [prod]
  | x :: xs, h => by
    simp only [prod]
    exact Int.mul_nonneg (h x (by simp)) (prod_nn (fun y hy => h y (by simp [hy])))
theorem BL_app (pre : List Int) : ∀ (n : Nat) (post : List Int), post.length = n → (∀ x ∈ pre ++ post, 0 ≤ x) → BL (pre ++ post) = (BL pre).flatMap (fun x => (BL post).map (x ++ ·))
  | 0, post, hn, h => by
    obtain rfl : post = [] := List.length_eq_zero_iff.1 hn
    have e : BL [] = [[]] := by simp [BL, prod, indexV]
    rw [List.append_nil, e]
    simp
  | n + 1, post, hn, h => by
    have hne : post ≠ [] := by intro e; rw [e] at hn; simp at hn
    obtain ⟨ds, d, rfl⟩ : ∃ ds d, post = ds ++ [d] := ⟨post.dropLast, post.getLast hne, (List.dropLast_concat_getLast hne).symm⟩
    have hd : 0 ≤ d := h d (by simp)
    rw [← List.append_assoc, BL_snoc (pre ++ ds) d hd (prod_nn (fun y hy => h y (by rcases List.mem_append.1 hy with hy | hy <;> simp [hy]))), BL_app pre n ds (by simpa using hn) (fun y hy => h y (by rcases List.mem_append.1 hy with hy | hy <;> simp [hy])),
      BL_snoc ds d hd (prod_nn (fun y hy => h y (by simp [hy]))), List.flatMap_assoc]
    apply flat_congr
    intro x _
    rw [List.flatMap_map, List.map_flatMap]
    apply flat_congr
    intro y _
    unfold more
    rw [List.map_map]
    apply List.map_congr_left
    intro r _
    simp
theorem BL_one (b : Nat) : BL [(b : Int)] = (List.range b).map (fun q : Nat => [(q : Int)]) := by
  have := BL_snoc [] (b : Int) (by omega) (by simp [prod])
  have e : BL [] = [[]] := by simp [BL, prod, indexV]
  rw [List.nil_append, e] at this
  rw [this]
  simp [more]
theorem BL_two (A s : Nat) (hs : 0 < s) : BL [(A : Int), (s : Int)] = (List.range (A * s)).map (fun q : Nat => [((q / s : Nat) : Int), ((q % s : Nat) : Int)]) := by
  have h := BL_snoc [(A : Int)] (s : Int) (by omega) (by simp [prod])
  have e : [(A : Int)] ++ [(s : Int)] = [(A : Int), (s : Int)] := rfl
  rw [e, BL_one] at h
  rw [h, List.flatMap_map, range_mul]
  apply flat_congr
  intro a _
  unfold more
  simp only [Int.toNat_natCast]
  apply List.map_congr_left
  intro c hc
  have hc' : c < s := by simpa using hc
  have h1 : (a * s + c) / s = a := by rw [Nat.mul_comm, Nat.mul_add_div hs, Nat.div_eq_of_lt hc']; omega
  have h2 : (a * s + c) % s = c := by rw [Nat.mul_comm, Nat.mul_add_mod]; exact Nat.mod_eq_of_lt hc'
  rw [h1, h2]
  rfl
/-- Two numbers put together. -/
def col (m : Nat) (s : Int) (x : List Int) : List Int := x.take m ++ (x[m]?.getD 0 * s + x[m + 1]?.getD 0) :: x.drop (m + 2)
theorem col_app (p : List Int) (a c s : Int) (z : List Int) : col p.length s (p ++ a :: c :: z) = p ++ (a * s + c) :: z := by
  unfold col
  simp
theorem strip_points (pre post : List Int) (A b s : Nat) (hs : 0 < s) (hb : b ≤ A * s) (h1 : ∀ x ∈ pre, 0 ≤ x) (h2 : ∀ x ∈ post, 0 ≤ x) :
    ((BL (pre ++ (A : Int) :: (s : Int) :: post)).filter (fun x => decide (x[pre.length]?.getD 0 * (s : Int) + x[pre.length + 1]?.getD 0 < (b : Int)))).map (col pre.length s) = BL (pre ++ (b : Int) :: post) := by
  have e1 : BL (pre ++ (A : Int) :: (s : Int) :: post) = (BL pre).flatMap (fun x => (BL ([(A : Int), (s : Int)] ++ post)).map (x ++ ·)) := BL_app pre _ _ rfl (fun x hx => by
    rcases List.mem_append.1 hx with hx | hx
    · exact h1 x hx
    · simp at hx
      rcases hx with rfl | rfl | hx
      · omega
      · omega
      · exact h2 x hx)
  have e2 : BL (pre ++ (b : Int) :: post) = (BL pre).flatMap (fun x => (BL ([(b : Int)] ++ post)).map (x ++ ·)) := BL_app pre _ _ rfl (fun x hx => by
    rcases List.mem_append.1 hx with hx | hx
    · exact h1 x hx
    · simp at hx
      rcases hx with rfl | hx
      · omega
      · exact h2 x hx)
  have e3 : BL ([(A : Int), (s : Int)] ++ post) = (BL [(A : Int), (s : Int)]).flatMap (fun x => (BL post).map (x ++ ·)) := BL_app _ _ _ rfl (fun x hx => by
    simp at hx
    rcases hx with rfl | rfl | hx
    · omega
    · omega
    · exact h2 x hx)
  have e4 : BL ([(b : Int)] ++ post) = (BL [(b : Int)]).flatMap (fun x => (BL post).map (x ++ ·)) := BL_app _ _ _ rfl (fun x hx => by
    simp at hx
    rcases hx with rfl | hx
    · omega
    · exact h2 x hx)
  rw [e1, e2, e3, e4, BL_two A s hs, BL_one, List.filter_flatMap, List.map_flatMap]
  apply flat_congr
  intro p hp
  have hpl : p.length = pre.length := by
    simp only [BL, List.mem_map] at hp
    obtain ⟨q, _, rfl⟩ := hp
    simp [indexV]
  rw [List.flatMap_map, List.flatMap_map, List.map_flatMap, List.map_flatMap, List.filter_flatMap, List.map_flatMap]
  have key : ∀ q : Nat, ((List.map (fun x => p ++ x) (List.map (fun x => [((q / s : Nat) : Int), ((q % s : Nat) : Int)] ++ x) (BL post))).filter (fun x => decide (x[pre.length]?.getD 0 * (s : Int) + x[pre.length + 1]?.getD 0 < (b : Int)))).map (col pre.length s) = if q < b then List.map (fun x => p ++ x) (List.map (fun x => [(q : Int)] ++ x) (BL post)) else [] := fun q => by
    have hq : ((q / s : Nat) : Int) * (s : Int) + ((q % s : Nat) : Int) = (q : Int) := by
      have := Nat.div_add_mod q s
      rw [← Int.natCast_mul, ← Int.natCast_add]
      congr 1
      rw [Nat.mul_comm]; exact this
    have hv : ∀ z : List Int, (p ++ ([((q / s : Nat) : Int), ((q % s : Nat) : Int)] ++ z))[pre.length]?.getD 0 * (s : Int) + (p ++ ([((q / s : Nat) : Int), ((q % s : Nat) : Int)] ++ z))[pre.length + 1]?.getD 0 = (q : Int) := fun z => by
      rw [← hpl]
      simp
      exact hq
    rw [List.map_map, List.map_map]
    by_cases h : q < b
    · rw [if_pos h, List.filter_eq_self.2 (fun x hx => ?_), List.map_map]
      · apply List.map_congr_left
        intro z _
        have := col_app p ((q / s : Nat) : Int) ((q % s : Nat) : Int) (s : Int) z
        rw [hpl, hq] at this
        exact this
      · obtain ⟨z, _, rfl⟩ := List.mem_map.1 hx
        have := hv z
        simp only [Function.comp_apply, this]
        simp; omega
    · rw [if_neg h, List.filter_eq_nil_iff.2 (fun x hx => ?_)]
      · rfl
      · obtain ⟨z, _, rfl⟩ := List.mem_map.1 hx
        have := hv z
        simp only [Function.comp_apply, this]
        simp; omega
  obtain ⟨r, hr⟩ : ∃ r, A * s = b + r := ⟨A * s - b, by omega⟩
  rw [flat_congr (g := fun q => if q < b then List.map (fun x => p ++ x) (List.map (fun x => [(q : Int)] ++ x) (BL post)) else []) (fun q _ => key q), hr, List.range_add, List.flatMap_append]
  have z1 : ((List.range r).map (fun x => b + x)).flatMap (fun q => if q < b then List.map (fun x => p ++ x) (List.map (fun x => [(q : Int)] ++ x) (BL post)) else []) = [] := by
    rw [List.flatMap_map]
    have : ∀ q ∈ List.range r, (if b + q < b then List.map (fun x => p ++ x) (List.map (fun x => [((b + q : Nat) : Int)] ++ x) (BL post)) else ([] : List (List Int))) = [] := fun q _ => by rw [if_neg (by omega)]
    rw [flat_congr this]
    simp
  rw [z1, List.append_nil]
  apply flat_congr
  intro q hq
  rw [if_pos (by simpa using hq)]
/-- A row with two numbers in the place of one. -/
def stripR (m : Nat) (s : Int) (r : List Int × Int) : List Int × Int := (r.1.take m ++ (r.1[m]?.getD 0 * s) :: r.1[m]?.getD 0 :: r.1.drop (m + 1), r.2)
theorem dotV_app : ∀ (a x : List Int) (b y : List Int), a.length = x.length → dotV (a ++ b) (x ++ y) = dotV a x + dotV b y
  | [], [], b, y, _ => by simp [dotV]
  | [], _ :: _, _, _, h => by simp at h
  | _ :: _, [], _, _, h => by simp at h
  | c :: cs, x :: xs, b, y, h => by
    simp only [List.cons_append, dotV]
    rw [dotV_app cs xs b y (by simpa using h)]
    omega
theorem worth_strip (r : List Int × Int) (m : Nat) (s : Int) (x : List Int) (hm : m < r.1.length) (hx : x.length = r.1.length + 1) : worthV (stripR m s r) x = worthV r (col m s x) := by
  obtain ⟨cp, k, cq, hc, hcl⟩ : ∃ cp k cq, r.1 = cp ++ k :: cq ∧ cp.length = m := ⟨r.1.take m, r.1[m], r.1.drop (m + 1), by simp, by simp; omega⟩
  obtain ⟨p, a, c, z, hp, hpl⟩ : ∃ p a c z, x = p ++ a :: c :: z ∧ p.length = m := ⟨x.take m, x[m]'(by omega), x[m + 1]'(by omega), x.drop (m + 2), by
    have h1 : x.drop m = x[m]'(by omega) :: x[m + 1]'(by omega) :: x.drop (m + 2) := by
      rw [List.drop_eq_getElem_cons (by omega), List.drop_eq_getElem_cons (i := m + 1) (by omega)]
    rw [← h1]; simp, by simp; omega⟩
  obtain ⟨rc, rk⟩ := r
  simp only at hc
  subst hc
  subst hp
  have e1 : stripR m s (cp ++ k :: cq, rk) = (cp ++ (k * s) :: k :: cq, rk) := by
    unfold stripR
    rw [← hcl]
    simp
  rw [e1, ← hpl, col_app]
  unfold worthV
  simp only
  rw [dotV_app cp p _ _ (by omega), dotV_app cp p _ _ (by omega)]
  simp only [dotV]
  have : k * s * a + (k * c + dotV cq z) = k * (a * s + c) + dotV cq z := by
    rw [Int.mul_add, Int.mul_assoc, Int.mul_comm s a]
    omega
  rw [this]
end Go.Proofs.Ytoidgdbgpbcebaa.V
namespace Go.Proofs.Ytoidgdbgpbcebaa.V
open Go.RowKit
set_option linter.unusedVariables false

/-- The last row of a stripped statement. -/
def lastR (pre post : List Int) (b s : Int) : List Int × Int := (pre.map (fun _ => 0) ++ (-s) :: (-1) :: post.map (fun _ => 0), b - 1)
theorem dotV_zero : ∀ (l x : List Int), dotV (l.map fun _ => 0) x = 0
  | [], _ => by simp [dotV]
  | _ :: _, [] => by simp [dotV]
  | c :: l, y :: x => by simp only [List.map_cons, dotV, dotV_zero l x]; omega
theorem worth_last (pre post p z : List Int) (a c b s : Int) (hp : p.length = pre.length) : worthV (lastR pre post b s) (p ++ a :: c :: z) = b - 1 - (a * s + c) := by
  unfold worthV lastR
  simp only
  rw [dotV_app _ p _ _ (by simp [hp]), dotV_zero]
  simp only [dotV, dotV_zero]
  rw [Int.mul_comm a s, Int.neg_mul]
  omega
def stripA (m : Nat) (s : Int) (a : Acc) : Acc := (a.1, stripR m s a.2)
theorem filter_map_comm {α β : Type} (l : List α) (f : α → β) (p : β → Bool) : (l.map f).filter p = (l.filter (fun x => p (f x))).map f := by
  induction l with
  | nil => rfl
  | cons x l ih =>
    simp only [List.map_cons, List.filter_cons, ih]
    split <;> simp
theorem filter_and {α : Type} (l : List α) (p q : α → Bool) : l.filter (fun x => p x && q x) = (l.filter q).filter p := by
  rw [List.filter_filter]
theorem filter_cong {α : Type} {l : List α} {p q : α → Bool} (h : ∀ x ∈ l, p x = q x) : l.filter p = l.filter q := List.filter_congr h
/-- The points of a stripped statement, put together, are the points. -/
theorem strip_pts (pre post : List Int) (A b s : Nat) (rows : List (List Int × Int)) (hs : 0 < s) (hb : b ≤ A * s) (h1 : ∀ x ∈ pre, 0 ≤ x) (h2 : ∀ x ∈ post, 0 ≤ x) (hr : ∀ r ∈ rows, r.1.length = (pre ++ (b : Int) :: post).length) :
    (pts (pre ++ (A : Int) :: (s : Int) :: post) (rows.map (stripR pre.length s) ++ [lastR pre post b s])).map (col pre.length s) = pts (pre ++ (b : Int) :: post) rows ∧
    ∀ x ∈ pts (pre ++ (A : Int) :: (s : Int) :: post) (rows.map (stripR pre.length s) ++ [lastR pre post b s]), x.length = (pre ++ (b : Int) :: post).length + 1 := by
  have hl : ∀ x ∈ BL (pre ++ (A : Int) :: (s : Int) :: post), x.length = (pre ++ (b : Int) :: post).length + 1 := fun x hx => by
    simp only [BL, List.mem_map] at hx
    obtain ⟨q, _, rfl⟩ := hx
    simp [indexV]
    omega
  refine ⟨?_, fun x hx => ?_⟩
  · rw [BL_filter, BL_filter, ← strip_points pre post A b s hs hb h1 h2, filter_map_comm, ← filter_and]
    congr 1
    apply filter_cong
    intro x hx
    have hxl := hl x hx
    obtain ⟨p, a, c, z, hp, hpl⟩ : ∃ p a c z, x = p ++ a :: c :: z ∧ p.length = pre.length := by
      have hlt : pre.length + 1 < x.length := by rw [hxl]; simp
      refine ⟨x.take pre.length, x[pre.length]'(by omega), x[pre.length + 1]'(by omega), x.drop (pre.length + 2), ?_, by simp; omega⟩
      have e : x.drop pre.length = x[pre.length]'(by omega) :: x[pre.length + 1]'(by omega) :: x.drop (pre.length + 2) := by
        rw [List.drop_eq_getElem_cons (by omega), List.drop_eq_getElem_cons (i := pre.length + 1) (by omega)]
      rw [← e]; simp
    unfold aboveB
    rw [List.all_append, List.all_map]
    congr 1
    · rw [Bool.eq_iff_iff, List.all_eq_true, List.all_eq_true]
      constructor
      · intro h r hr'
        have := h r hr'
        simp only [Function.comp_apply] at this
        rw [worth_strip r pre.length s x (by rw [hr r hr']; simp) (by rw [hr r hr']; exact hxl)] at this
        exact this
      · intro h r hr'
        simp only [Function.comp_apply]
        rw [worth_strip r pre.length s x (by rw [hr r hr']; simp) (by rw [hr r hr']; exact hxl)]
        exact h r hr'
    · simp only [List.all_cons, List.all_nil, Bool.and_true]
      rw [hp, worth_last pre post p z a c b s hpl]
      have e1 : (p ++ a :: c :: z)[pre.length]?.getD 0 = a := by rw [← hpl]; simp
      have e2 : (p ++ a :: c :: z)[pre.length + 1]?.getD 0 = c := by rw [← hpl]; simp
      rw [e1, e2, decide_eq_decide]
      omega
  · rw [BL_filter] at hx
    exact hl x (List.mem_filter.1 hx).1
/-- Two statements that do the same: with as many strips of a size as it takes. -/
theorem strip_stm (s t : Stm) (pre post : List Int) (A b n : Nat) (hn : 0 < n) (hb : b ≤ A * n) (h1 : ∀ x ∈ pre, 0 ≤ x) (h2 : ∀ x ∈ post, 0 ≤ x) (hsb : s.box = pre ++ (b : Int) :: post) (htb : t.box = pre ++ (A : Int) :: (n : Int) :: post)
    (hr : ∀ r ∈ s.rows, r.1.length = s.box.length) (htr : t.rows = s.rows.map (stripR pre.length n) ++ [lastR pre post b n]) (hk : t.kind = s.kind) (hv : t.val = s.val) (hp : s.put.2.1.length = s.box.length) (htp : t.put = stripA pre.length n s.put)
    (hg : ∀ g ∈ s.gets, g.2.1.length = s.box.length) (htg : t.gets = s.gets.map (stripA pre.length n)) (M : Mem) : stmM M t = stmM M s := by
  obtain ⟨e, hl⟩ := strip_pts pre post A b n s.rows hn hb h1 h2 (by rw [← hsb]; exact hr)
  unfold stmM
  rw [hsb, ← e, htb, htr, List.foldl_map]
  have hlt : pre.length < s.box.length := by rw [hsb]; simp
  have step : ∀ N x, x.length = (pre ++ (b : Int) :: post).length + 1 → doM t N x = doM s N (col pre.length n x) := fun N x hx => by
    have hx' : x.length = s.box.length + 1 := by rw [hsb]; exact hx
    have wa : ∀ a : Acc, a.2.1.length = s.box.length → worthV (stripA pre.length n a).2 x = worthV a.2 (col pre.length n x) := fun a ha => worth_strip a.2 pre.length n x (by omega) (by omega)
    have ia : ∀ a : Acc, a.2.1.length = s.box.length → (inM N (stripA pre.length n a) x ↔ inM N a (col pre.length n x)) := fun a ha => by
      unfold inM
      rw [wa a ha]
      rfl
    have ga : ∀ a : Acc, a.2.1.length = s.box.length → gotM N (stripA pre.length n a) x = gotM N a (col pre.length n x) := fun a ha => by
      unfold gotM
      by_cases h : inM N a (col pre.length n x)
      · rw [if_pos h, if_pos ((ia a ha).2 h), wa a ha]
        rfl
      · rw [if_neg h, if_neg (fun h' => h ((ia a ha).1 h'))]
    have gk : ∀ i, gotK N t x i = gotK N s (col pre.length n x) i := fun i => by
      unfold gotK
      rw [htg, List.length_map]
      by_cases hi : i < s.gets.length
      · rw [if_pos hi, if_pos hi]
        have e1 : (s.gets.map (stripA pre.length n))[i]?.getD accD = stripA pre.length n (s.gets[i]?.getD accD) := by simp [hi]
        rw [e1]
        exact ga _ (hg _ (by simp [hi]))
      · rw [if_neg hi, if_neg hi]
    have nm : newM N t x = newM N s (col pre.length n x) := by
      unfold newM
      rw [gk, gk, gk, hk, hv, htp, ga _ hp]
    unfold doM
    rw [htp, nm]
    by_cases h : inM N s.put (col pre.length n x)
    · rw [if_pos h, if_pos ((ia _ hp).2 h), wa _ hp]
      rfl
    · rw [if_neg h, if_neg (fun h' => h ((ia _ hp).1 h'))]
  generalize hP : pts (pre ++ (A : Int) :: (n : Int) :: post) (s.rows.map (stripR pre.length n) ++ [lastR pre post b n]) = P at hl ⊢
  clear hP e
  induction P generalizing M with
  | nil => rfl
  | cons x P ih =>
    rw [List.foldl_cons, List.foldl_cons, step M x (hl x (by simp))]
    exact ih _ (fun y hy => hl y (by simp [hy]))
end Go.Proofs.Ytoidgdbgpbcebaa.V
