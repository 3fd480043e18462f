/-
  What Do makes of two arrays, in what it makes go with sums of the first one. Contracts: array.Do of Fill, whatever the list of dimensions is; adjointlaw2.one0 of it. What the law ArrayLinear needs besides: append onto one array, one0, linear. ArrayLinear: the walk of the law.
-/
import Derived.Test.YtcidhbkdaleomaaLK45L
import Derived.Test.YtcidhbkdaleomaaLK36L
import Derived.ArgAppend
import Derived.Laws.AppendOwnNone
import Derived.Test.YtcidhbkdaleomaaLK35L
namespace Go.Proofs.Ytcidhbkdaleomaa.V
set_option maxRecDepth 20000
open Go.RowKit

/-- Two arrays, of which nothing but their dimensions and how many numbers they have is known. -/
def pairV (ds : List Int) (n : Nat) (gs : List Int) (m : Nat) (j : Nat) : ArrV := if j = 0 then ⟨none, 0, 0, ds, none, n, 0⟩ else ⟨none, 0, 0, gs, none, m, 0⟩
theorem two_congr (da : Option Addr) (dl dc : Nat) (ds : List Int) (xa : Option Addr) (n xc : Nat) (fa : Option Addr) (fl fc : Nat) (gs : List Int) (ya : Option Addr) (m yc : Nat) : ∀ j, j < 2 → (twoV2 da dl dc ds xa n xc fa fl fc gs ya m yc j).ds = (pairV ds n gs m j).ds ∧ (twoV2 da dl dc ds xa n xc fa fl fc gs ya m yc j).xl = (pairV ds n gs m j).xl := fun j hj => by
  have : j = 0 ∨ j = 1 := by omega
  rcases this with rfl | rfl
  · exact ⟨rfl, rfl⟩
  · exact ⟨rfl, rfl⟩
theorem pairV_parts {k : Int} {es ps lo hi st ds gs : List Int} {n m : Nat} (h : doE k es ps lo hi st 2 (pairV ds n gs m) = 0) : arrE ds n = 0 ∧ arrE gs m = 0 ∧ (shapeP k es ps lo hi st [ds, gs]).2 = 0 ∧ sizeE (shapeP k es ps lo hi st [ds, gs]).1 = 0 ∧ (dimsP k es ps lo hi st [ds, gs]).1 = (shapeP k es ps lo hi st [ds, gs]).1 := by
  obtain ⟨_, c2, c3⟩ := doE_ok h
  exact ⟨arrsE_ok 2 c2 0 (by omega), arrsE_ok 2 c2 1 (by omega), dimsP_parts c3⟩
def Lin2 (w : World) (op : Value) (ds : List Int) (n : Nat) (fa : Option Addr) (fl fc : Nat) (ya : Option Addr) (m yc : Nat) : Prop :=
  ∃ (L : List Int) (N : Nat) (f : List Int → List Int), IsLin f n N ∧ arrE L N = 0 ∧ ∀ (W : World) (b off cap : Nat) (da : Option Addr) (dl dc : Nat) (xa : Option Addr) (xc : Nat) (xs : List Int),
    Below w.heap.size w W → W.cell? ⟨b, off, none⟩ = some (.slice da dl dc) → W.cell? ⟨b, off + 1, none⟩ = some (.slice xa n xc) → W.cell? ⟨b, off + 2, none⟩ = some (.slice fa fl fc) → W.cell? ⟨b, off + 3, none⟩ = some (.slice ya m yc) → Lst W da dl dc ds → Ints W xa n xs → n ≤ xc →
    Calls Try.prog 24 #[op, .slice (some ⟨b, off, none⟩) 2 cap] W fun e W' => DoesTo W L (f xs) N e W' ∧ Below W.heap.size W W'
theorem prod_nn : ∀ l : List Int, (∀ x ∈ l, 0 ≤ x) → 0 ≤ prod l
  | [], _ => by simp [prod]
  | a :: l, h => Int.mul_nonneg (h a (by simp)) (prod_nn l (fun x hx => h x (by simp [hx])))
theorem size_nn {ds : List Int} (h : sizeE ds = 0) : ∀ x ∈ ds, 0 ≤ x := fun x hx => ((sizeE_ok h).2.1 x hx).1
theorem taken_nn {ds ps : List Int} (h : ∀ x ∈ ds, 0 ≤ x) : ∀ x ∈ taken ds ps, 0 ≤ x := by
  intro x hx
  simp only [taken, List.mem_map] at hx
  obtain ⟨k, _, rfl⟩ := hx
  by_cases c : k.toNat < ds.length
  · exact h _ (mem_getD ds _ c)
  · simp [List.getElem?_eq_none (Nat.le_of_not_lt c)]
theorem nat_prod {l : List Int} (h : ∀ x ∈ l, 0 ≤ x) : ∃ t : Nat, prod l = (t : Int) := ⟨(prod l).toNat, by have := prod_nn l h; omega⟩
/-- The three parts of a Dot's dimensions. -/
theorem dot_parts {lo ps ds : List Int} (h : onceB (lo ++ ps) ds.length = true) : PermOk (lo ++ freeL (lo ++ ps) ds.length ++ ps) ds.length ∧ prod ds = prod (taken ds lo) * prod (taken ds (freeL (lo ++ ps) ds.length)) * prod (taken ds ps) := by
  have hp := dot_perm ((onceB_iff _ _).1 h)
  refine ⟨hp, ?_⟩
  rw [← prod_perm (taken_perm hp), taken_append, taken_append, prod_append, prod_append]

theorem lin_dot2 (x : Int) (ea : Option Addr) (el ec : Nat) (es : List Int) (pa : Option Addr) (pl pc : Nat) (ps : List Int) (la : Option Addr) (ll lc : Nat) (lo : List Int) (ha : Option Addr) (hl hc : Nat) (hi : List Int) (ta : Option Addr) (tl tc : Nat) (st : List Int) (ds : List Int) (n : Nat) (fa : Option Addr) (fl fc : Nat) (gs : List Int) (ya : Option Addr) (m yc : Nat) (ys : List Int) (w : World)
    (he : Lst w ea el ec es) (hp : Lst w pa pl pc ps) (hlo : Lst w la ll lc lo) (hhi : Lst w ha hl hc hi) (hst : Lst w ta tl tc st) (b0 : el ≤ 1048576) (b1 : pl ≤ 1048576) (b2 : ll ≤ 1048576) (b3 : hl ≤ 1048576) (b4 : tl ≤ 1048576) (hf : Lst w fa fl fc gs) (hy : Ints w ya m ys) (hE : doE 16 es ps lo hi st 2 (pairV ds n gs m) = 0) : Lin2 w (.agg #[.int .i64 16, .slice ea el ec, .slice pa pl pc, .slice la ll lc, .slice ha hl hc, .slice ta tl tc, .int .i64 x]) ds n fa fl fc ya m yc := by
  obtain ⟨ha1, ha2, hs1, hs2, hs3⟩ := pairV_parts hE
  have hsh : shapeP 16 es ps lo hi st [ds, gs] = dotP ps st lo hi ds gs := rfl
  rw [hsh] at hs1 hs2 hs3
  have hz1 := (arrE_ok ha1).1
  have hz2 := (arrE_ok ha2).1
  have hn := (arrE_ok ha1).2.1
  have hm := (arrE_ok ha2).2.1
  have hn6 := (arrE_ok ha1).2.2
  have hm6 := (arrE_ok ha2).2.2
  have hdB : dotB ps st lo hi ds gs = true ∧ (dotP ps st lo hi ds gs).1 = dotL ps st lo hi ds gs := by
    unfold dotP at hs1 ⊢
    by_cases c : dotB ps st lo hi ds gs = true
    · rw [if_pos c]; exact ⟨c, rfl⟩
    · rw [if_neg c] at hs1; exact absurd hs1 (by simp)
  obtain ⟨hB, hq1⟩ := hdB
  rw [hq1] at hs2 hs3
  obtain ⟨haL, hN⟩ := arrE_of hs2
  have hB' := hB
  unfold dotB at hB'
  simp only [Bool.and_eq_true, decide_eq_true_eq] at hB'
  obtain ⟨o1, o2, q2, q3⟩ := hB'
  obtain ⟨p1, p2⟩ := dot_parts o1
  obtain ⟨p3, p4⟩ := dot_parts o2
  obtain ⟨t, ht⟩ := nat_prod (taken_nn (ps := lo) (size_nn hz1))
  obtain ⟨r, hr⟩ := nat_prod (taken_nn (ps := freeL (lo ++ ps) ds.length) (size_nn hz1))
  obtain ⟨c, hcc⟩ := nat_prod (taken_nn (ps := freeL (hi ++ st) gs.length) (size_nn hz2))
  obtain ⟨g', hg'⟩ := nat_prod (taken_nn (ps := ps) (size_nn hz1))
  have en : n = t * r * g' := by rw [p2, ht, hr, hg', ← Int.natCast_mul, ← Int.natCast_mul] at hn; omega
  have em : m = t * c * g' := by rw [p4, ← q2, ← q3, ht, hcc, hg', ← Int.natCast_mul, ← Int.natCast_mul] at hm; omega
  have eN : (prod (dotL ps st lo hi ds gs)).toNat = t * r * c := by
    have : prod (dotL ps st lo hi ds gs) = ((t * r * c : Nat) : Int) := by unfold dotL; rw [prod_append, prod_append, ht, hr, hcc, ← Int.natCast_mul, ← Int.natCast_mul]
    rw [this]; omega
  have hN6 := (arrE_ok haL).2.2
  rw [eN] at haL hN hN6
  have ht1 : turnE 0 ds (stepsV ds) (lo ++ freeL (lo ++ ps) ds.length ++ ps) = 0 := by
    unfold turnE
    rw [if_neg (by rw [wrong_whole hz1]; simp), if_pos ((permB_iff _ _).2 p1)]
  have ht2 : turnE 0 gs (stepsV gs) (hi ++ freeL (hi ++ st) gs.length ++ st) = 0 := by
    unfold turnE
    rw [if_neg (by rw [wrong_whole hz2]; simp), if_pos ((permB_iff _ _).2 p3)]
  obtain ⟨_, _, _, w1, r1⟩ := thr_turn ht1
  obtain ⟨_, _, _, w2, r2⟩ := thr_turn ht2
  have l1 : (prod (taken ds (lo ++ freeL (lo ++ ps) ds.length ++ ps))).toNat = n := by rw [prod_perm (taken_perm p1)]; omega
  have l2 : (prod (taken gs (hi ++ freeL (hi ++ st) gs.length ++ st))).toNat = m := by rw [prod_perm (taken_perm p3)]; omega
  obtain ⟨Q1, hQ1⟩ : ∃ Q1, Q1 = readsV 0 (taken ds (lo ++ freeL (lo ++ ps) ds.length ++ ps)) (taken (stepsV ds) (lo ++ freeL (lo ++ ps) ds.length ++ ps)) := ⟨_, rfl⟩
  obtain ⟨Q2, hQ2⟩ : ∃ Q2, Q2 = readsV 0 (taken gs (hi ++ freeL (hi ++ st) gs.length ++ st)) (taken (stepsV gs) (hi ++ freeL (hi ++ st) gs.length ++ st)) := ⟨_, rfl⟩
  have k1 : Q1.length = n := by rw [hQ1, readsV_length, l1]
  have k2 : Q2.length = m := by rw [hQ2, readsV_length, l2]
  have kb1 : ∀ i, i < n → 0 ≤ Q1[i]?.getD 0 ∧ Q1[i]?.getD 0 < n := fun i hi' => by
    obtain ⟨p, h1, h2, _⟩ := r1 i (by rw [l1]; exact hi')
    rw [hQ1, h2]; omega
  have kb2 : ∀ i, i < m → 0 ≤ Q2[i]?.getD 0 ∧ Q2[i]?.getD 0 < m := fun i hi' => by
    obtain ⟨p, h1, h2, _⟩ := r2 i (by rw [l2]; exact hi')
    rw [hQ2, h2]; omega
  have hbn : ∀ i, i < t * r * c → i / c * g' + g' ≤ n ∧ (i / c / r * c + i % c) * g' + g' ≤ m ∧ i / c / r * c + i % c < t * c := fun i hi' => by
    have hc0 := (pos_of_lt_mul hi').2
    have d1 : i / c < t * r := div_row hi'
    have d2 : i / c / r < t := div_row d1
    have d3 : i / c / r * c + i % c < t * c := row_lt d2 (Nat.mod_lt _ hc0)
    refine ⟨?_, ?_, d3⟩
    · rw [en]
      have := Nat.mul_le_mul_right g' d1
      rw [Nat.succ_mul] at this
      exact this
    · rw [em]
      have := Nat.mul_le_mul_right g' d3
      rw [Nat.succ_mul] at this
      exact this
  refine ⟨dotL ps st lo hi ds gs, t * r * c, fun xs => dotF (lookL xs Q1) (lookL ys Q2) g' r c (t * r * c), lin_dot _ _ _ _ _ _ _ (fun i hi' => by rw [k1]; exact (hbn i hi').1), haL, ?_⟩
  intro W b off cap da dl dc xa xc xs hW c0 c1 c2 c3 hd hx hxc
  refine Do_good 16 x ea el ec es pa pl pc ps la ll lc lo ha hl hc hi ta tl tc st (some ⟨b, off, none⟩) 2 cap (twoV2 da dl dc ds xa n xc fa fl fc gs ya m yc) (dotL ps st lo hi ds gs) (t * r * c) (dotF (lookL xs Q1) (lookL ys Q2) g' r c (t * r * c)) W (he.below hW) (hp.below hW) (hlo.below hW) (hhi.below hW) (hst.below hW) b0 b1 b2 b3 b4 (arrs_two c0 c1 c2 c3 hd (hf.below hW)) (by omega) ((doE_congr (two_congr _ _ _ _ _ _ _ _ _ _ _ _ _ _)).trans hE) hs3.symm hN (dotF_length _ _ _ _ _ _) (fun y hy' => by
    simp only [dotF, List.mem_map] at hy'
    obtain ⟨i, _, rfl⟩ := hy'
    rw [innS_sum]; exact wrap_bd _) ?_
  intro hpos W2 Z nz cz g hW2 hg _ _ hrow
  have hc0 := (pos_of_lt_mul hpos).2
  have hr0 := (pos_of_lt_mul (pos_of_lt_mul hpos).1).2
  have ht0 := (pos_of_lt_mul (pos_of_lt_mul hpos).1).1
  have hg6 : g' ≤ 65536 := Nat.le_trans (Nat.le_trans (Nat.le_mul_of_pos_left g' (Nat.mul_pos ht0 hr0)) (Nat.le_of_eq en.symm)) hn6
  have hr6 : r ≤ 65536 := Nat.le_trans (Nat.le_trans (Nat.le_mul_of_pos_left r ht0) (Nat.le_mul_of_pos_right (t * r) hc0)) hN6
  have hc6 : c ≤ 65536 := Nat.le_trans (Nat.le_mul_of_pos_left c (Nat.mul_pos ht0 hr0)) hN6
  have htc6 : t * c ≤ 65536 := by
    refine Nat.le_trans ?_ hN6
    rw [Nat.mul_assoc, Nat.mul_comm r c, ← Nat.mul_assoc]
    exact Nat.le_mul_of_pos_right _ hr0
  have hbk := lt_of_cell c0
  have hr61 := (sizeE_ok hz1).1
  have hr62 := (sizeE_ok hz2).1
  have pl1 := p1.1
  have pl2 := p3.1
  simp only [List.length_append] at pl1 pl2
  refine work_dot x (.slice ea el ec) (.slice pa pl pc) (.slice la ll lc) (.slice ha hl hc) (.slice ta tl tc) Z nz cz g (t * r * c) b off cap (.slice da dl dc) (.slice xa n xc) (.slice fa fl fc) (.slice ya m yc) _ W2 ((hW2.cell (p := ⟨b, off, none⟩) (lt_of_cell c0)).trans c0) ((hW2.cell (p := ⟨b, off + 1, none⟩) (lt_of_cell c1)).trans c1) ((hW2.cell (p := ⟨b, off + 2, none⟩) (lt_of_cell c2)).trans c2) ((hW2.cell (p := ⟨b, off + 3, none⟩) (lt_of_cell c3)).trans c3) (by simp at hbk; omega) hrow (fun W3 hW3 hrow3 => ?_)
  have hWW := hW.trans (hW2.mono hW.size)
  have h3 := hWW.trans (hW3.mono hWW.size)
  have g3 := hW2.trans (hW3.mono hW2.size)
  exact dot_any 16 x (.slice ea el ec) pa pl pc ps la ll lc lo ha hl hc hi ta tl tc st da dl dc ds xa n xc xs fa fl fc gs ya m yc ys Q1 Q2 g' r c g (t * r * c) W3 (hp.below h3) (hlo.below h3) (hhi.below h3) (hst.below h3) (hd.1.below g3) (hf.1.below h3) (hx.below g3) (hy.below h3) hz1 hz2 hn6 hm6 hN6 hB ht1 hQ1 w1 k1 kb1 (by omega) ht2 hQ2 w2 k2 kb2 (by omega) hg' hr hcc hr0 hc0 hg6 hr6 hc6 (fun i hi' => ⟨(hbn i hi').1, (hbn i hi').2.1, by have := (hbn i hi').2.2; omega⟩) hrow3

theorem lin_take2 (x : Int) (ea : Option Addr) (el ec : Nat) (es : List Int) (pa : Option Addr) (pl pc : Nat) (ps : List Int) (la : Option Addr) (ll lc : Nat) (lo : List Int) (ha : Option Addr) (hl hc : Nat) (hi : List Int) (ta : Option Addr) (tl tc : Nat) (st : List Int) (ds : List Int) (n : Nat) (fa : Option Addr) (fl fc : Nat) (gs : List Int) (ya : Option Addr) (m yc : Nat) (ys : List Int) (w : World)
    (he : Lst w ea el ec es) (hp : Lst w pa pl pc ps) (hlo : Lst w la ll lc lo) (hhi : Lst w ha hl hc hi) (hst : Lst w ta tl tc st) (b0 : el ≤ 1048576) (b1 : pl ≤ 1048576) (b2 : ll ≤ 1048576) (b3 : hl ≤ 1048576) (b4 : tl ≤ 1048576) (hf : Lst w fa fl fc gs) (hy : Ints w ya m ys) (hE : doE 18 es ps lo hi st 2 (pairV ds n gs m) = 0) : Lin2 w (.agg #[.int .i64 18, .slice ea el ec, .slice pa pl pc, .slice la ll lc, .slice ha hl hc, .slice ta tl tc, .int .i64 x]) ds n fa fl fc ya m yc := by
  obtain ⟨ha1, ha2, hs1, hs2, hs3⟩ := pairV_parts hE
  have hsh : shapeP 18 es ps lo hi st [ds, gs] = takeP ds gs := rfl
  rw [hsh] at hs1 hs2 hs3
  have hz1 := (arrE_ok ha1).1
  have hz2 := (arrE_ok ha2).1
  have hn := (arrE_ok ha1).2.1
  have hm := (arrE_ok ha2).2.1
  have hn6 := (arrE_ok ha1).2.2
  have hT : ds.length ≠ 0 ∧ (takeP ds gs).1 = gs ++ ds.drop 1 := by
    unfold takeP at hs1 ⊢
    by_cases c : ds.length = 0
    · rw [if_pos c] at hs1; exact absurd hs1 (by simp)
    · rw [if_neg c]; exact ⟨c, rfl⟩
  obtain ⟨hl0, hq1⟩ := hT
  rw [hq1] at hs2 hs3
  obtain ⟨haL, hN⟩ := arrE_of hs2
  obtain ⟨D, hD⟩ := nat_of' (size_nn hz1 _ (mem_getD ds 0 (by omega)))
  obtain ⟨long, hlong⟩ := nat_prod (l := ds.drop 1) (fun x hx => size_nn hz1 x (List.mem_of_mem_drop hx))
  have en : n = D * long := by
    have := prod_drop ds 0 (by omega)
    rw [List.drop_zero, hD, Nat.zero_add, hlong, ← Int.natCast_mul] at this
    omega
  have eN : (prod (gs ++ ds.drop 1)).toNat = m * long := by
    have : prod (gs ++ ds.drop 1) = ((m * long : Nat) : Int) := by rw [prod_append, ← hm, hlong, ← Int.natCast_mul]
    rw [this]; omega
  have hN6 := (arrE_ok haL).2.2
  rw [eN] at haL hN hN6
  refine ⟨gs ++ ds.drop 1, m * long, fun xs => takeL xs ys long D (m * long), lin_take _ _ _ _ _, haL, ?_⟩
  intro W b off cap da dl dc xa xc xs hW c0 c1 c2 c3 hd hx hxc
  refine Do_good 18 x ea el ec es pa pl pc ps la ll lc lo ha hl hc hi ta tl tc st (some ⟨b, off, none⟩) 2 cap (twoV2 da dl dc ds xa n xc fa fl fc gs ya m yc) (gs ++ ds.drop 1) (m * long) (takeL xs ys long D (m * long)) W (he.below hW) (hp.below hW) (hlo.below hW) (hhi.below hW) (hst.below hW) b0 b1 b2 b3 b4 (arrs_two c0 c1 c2 c3 hd (hf.below hW)) (by omega) ((doE_congr (two_congr _ _ _ _ _ _ _ _ _ _ _ _ _ _)).trans hE) hs3.symm hN (takeL_length _ _ _ _ _) (fun y hy' => by
    simp only [takeL, List.mem_map] at hy'
    obtain ⟨i, _, rfl⟩ := hy'
    split
    · exact bnd_at hx.2.2.1 _
    · omega) ?_
  intro hpos W2 Z nz cz g hW2 hg _ _ hrow
  have hm0 := (pos_of_lt_mul hpos).1
  have hbk := lt_of_cell c0
  refine work_take x (.slice ea el ec) (.slice pa pl pc) (.slice la ll lc) (.slice ha hl hc) (.slice ta tl tc) Z nz cz g (m * long) b off cap (.slice da dl dc) (.slice xa n xc) (.slice fa fl fc) (.slice ya m yc) _ W2 ((hW2.cell (p := ⟨b, off, none⟩) (lt_of_cell c0)).trans c0) ((hW2.cell (p := ⟨b, off + 1, none⟩) (lt_of_cell c1)).trans c1) ((hW2.cell (p := ⟨b, off + 2, none⟩) (lt_of_cell c2)).trans c2) ((hW2.cell (p := ⟨b, off + 3, none⟩) (lt_of_cell c3)).trans c3) hrow (fun W3 hW3 hrow3 => ?_)
  have hWW := hW.trans (hW2.mono hW.size)
  have h3 := hWW.trans (hW3.mono hWW.size)
  have g3 := hW2.trans (hW3.mono hW2.size)
  exact takeRows_any g (m * long) m long D da dl dc ds xa n xc xs ya yc ys W3 (hd.1.below g3) (by rw [← hd.1.1]; omega) hD (hx.below g3) (hy.below h3) hxc rfl hpos en hN6 hn6 (off_new (W := W) hd.1 (by rw [← hd.1.1]; omega) hg) (fun h0 => off_new (W := W) hx h0 hg) (off_new (W := W) (hy.below hW) hm0 hg) hrow3

theorem lin_put2 (x : Int) (ea : Option Addr) (el ec : Nat) (es : List Int) (pa : Option Addr) (pl pc : Nat) (ps : List Int) (la : Option Addr) (ll lc : Nat) (lo : List Int) (ha : Option Addr) (hl hc : Nat) (hi : List Int) (ta : Option Addr) (tl tc : Nat) (st : List Int) (ds : List Int) (n : Nat) (fa : Option Addr) (fl fc : Nat) (gs : List Int) (ya : Option Addr) (m yc : Nat) (ys : List Int) (w : World)
    (he : Lst w ea el ec es) (hp : Lst w pa pl pc ps) (hlo : Lst w la ll lc lo) (hhi : Lst w ha hl hc hi) (hst : Lst w ta tl tc st) (b0 : el ≤ 1048576) (b1 : pl ≤ 1048576) (b2 : ll ≤ 1048576) (b3 : hl ≤ 1048576) (b4 : tl ≤ 1048576) (hf : Lst w fa fl fc gs) (hy : Ints w ya m ys) (hE : doE 19 es ps lo hi st 2 (pairV ds n gs m) = 0) : Lin2 w (.agg #[.int .i64 19, .slice ea el ec, .slice pa pl pc, .slice la ll lc, .slice ha hl hc, .slice ta tl tc, .int .i64 x]) ds n fa fl fc ya m yc := by
  obtain ⟨ha1, ha2, hs1, hs2, hs3⟩ := pairV_parts hE
  have hsh : shapeP 19 es ps lo hi st [ds, gs] = putP es ds gs := rfl
  rw [hsh] at hs1 hs2 hs3
  have hz1 := (arrE_ok ha1).1
  have hn := (arrE_ok ha1).2.1
  have hm := (arrE_ok ha2).2.1
  have hn6 := (arrE_ok ha1).2.2
  have hT : es.length = 1 ∧ ds.take gs.length = gs ∧ (putP es ds gs).1 = es ++ ds.drop gs.length := by
    unfold putP at hs1 ⊢
    by_cases c : es.length ≠ 1
    · rw [if_pos c] at hs1; exact absurd hs1 (by simp)
    rw [if_neg c] at hs1 ⊢
    by_cases c2 : ds.length < gs.length
    · rw [if_pos c2] at hs1; exact absurd hs1 (by simp)
    rw [if_neg c2] at hs1 ⊢
    by_cases c3 : ds.take gs.length = gs
    · rw [if_pos c3]; exact ⟨Decidable.not_not.1 c, c3, rfl⟩
    · rw [if_neg c3] at hs1; exact absurd hs1 (by simp)
  obtain ⟨hl1, htk, hq1⟩ := hT
  rw [hq1] at hs2 hs3
  obtain ⟨haL, hN⟩ := arrE_of hs2
  obtain ⟨e0, he0⟩ : ∃ e0, es = [e0] := by
    match es, hl1 with
    | [a], _ => exact ⟨a, rfl⟩
  have hpos0 : 0 ≤ e0 := size_nn hs2 e0 (by rw [he0]; simp)
  obtain ⟨D, hD⟩ := nat_of' hpos0
  obtain ⟨long, hlong⟩ := nat_prod (l := ds.drop gs.length) (fun x hx => size_nn hz1 x (List.mem_of_mem_drop hx))
  have en : n = m * long := by
    have h1 : prod ds = prod gs * prod (ds.drop gs.length) := by
      conv => lhs; rw [← List.take_append_drop gs.length ds, prod_append, htk]
    rw [h1, ← hm, hlong, ← Int.natCast_mul] at hn
    omega
  have eN : (prod (es ++ ds.drop gs.length)).toNat = D * long := by
    have : prod (es ++ ds.drop gs.length) = ((D * long : Nat) : Int) := by rw [prod_append, he0, hlong, hD]; simp [prod]
    rw [this]; omega
  have hN6 := (arrE_ok haL).2.2
  rw [eN] at haL hN hN6
  have hL0 : (es ++ ds.drop gs.length)[0]?.getD 0 = (D : Int) := by rw [he0, hD]; simp
  refine ⟨es ++ ds.drop gs.length, D * long, fun xs => putL xs ys long (D * long) m, lin_put _ _ _ _ _, haL, ?_⟩
  intro W b off cap da dl dc xa xc xs hW c0 c1 c2 c3 hd hx hxc
  refine Do_good 19 x ea el ec es pa pl pc ps la ll lc lo ha hl hc hi ta tl tc st (some ⟨b, off, none⟩) 2 cap (twoV2 da dl dc ds xa n xc fa fl fc gs ya m yc) (es ++ ds.drop gs.length) (D * long) (putL xs ys long (D * long) m) W (he.below hW) (hp.below hW) (hlo.below hW) (hhi.below hW) (hst.below hW) b0 b1 b2 b3 b4 (arrs_two c0 c1 c2 c3 hd (hf.below hW)) (by omega) ((doE_congr (two_congr _ _ _ _ _ _ _ _ _ _ _ _ _ _)).trans hE) hs3.symm hN (putL_length _ _ _ _ _) (fun y hy' => by
    simp only [putL, List.mem_map] at hy'
    obtain ⟨i, _, rfl⟩ := hy'
    exact wrap_bd _) ?_
  intro hpos W2 Z nz cz g hW2 hg hZ _ hrow
  refine work_put x (.slice ea el ec) (.slice pa pl pc) (.slice la ll lc) (.slice ha hl hc) (.slice ta tl tc) Z nz cz g (D * long) b off cap (.slice da dl dc) (.slice xa n xc) (.slice fa fl fc) (.slice ya m yc) _ W2 ((hW2.cell (p := ⟨b, off, none⟩) (lt_of_cell c0)).trans c0) ((hW2.cell (p := ⟨b, off + 1, none⟩) (lt_of_cell c1)).trans c1) ((hW2.cell (p := ⟨b, off + 2, none⟩) (lt_of_cell c2)).trans c2) ((hW2.cell (p := ⟨b, off + 3, none⟩) (lt_of_cell c3)).trans c3) hrow (fun W3 hW3 hrow3 => ?_)
  have hWW := hW.trans (hW2.mono hW.size)
  have h3 := hWW.trans (hW3.mono hWW.size)
  have g3 := hW2.trans (hW3.mono hW2.size)
  exact putRows_any g (D * long) m long D Z nz cz (es ++ ds.drop gs.length) xa n xc xs ya yc ys W3 (hZ.below hW3) (by rw [← hZ.1, he0]; simp) hL0 (hx.below g3) (hy.below h3) hxc rfl hpos en hN6 hn6 (fun h0 => off_new (W := W) hx h0 hg) (fun h0 => off_new (W := W) (hy.below hW) h0 hg) hrow3
end Go.Proofs.Ytcidhbkdaleomaa.V
namespace Go.Proofs.Ytcidhbkdaleomaa.V
set_option maxRecDepth 20000
open Go.RowKit

set_option maxRecDepth 100000 in
set_option maxHeartbeats 2000000 in
theorem shape_fill (x : Int) (ea : Option Addr) (el ec : Nat) (es : List Int) (av : Value) (w : World) (he : Ints w ea el es) (h6 : el ≤ 6) :
    Calls Try.prog 28 #[.agg #[.int .i64 2, .slice ea el ec, .slice none 0 0, .slice none 0 0, .slice none 0 0, .slice none 0 0, .int .i64 x], av] w fun e w' => OutP e w' (es, 0) ∧ Below w.heap.size w w' := by
  have HE := hide he
  have HB1 := hide ((Below.refl w.heap.size w).alloc (Nat.le_refl _) (.cells #[.int .i64 2, .slice ea el ec, .slice none 0 0, .slice none 0 0, .slice none 0 0, .slice none 0 0, .int .i64 x] 24))
  have HOP := hide (OpAt.new w 2 (.slice ea el ec) (.slice none 0 0) (.slice none 0 0) (.slice none 0 0) (.slice none 0 0) x)
  obtain ⟨o0, o1, o2, o3, o4, o5, o6⟩ := HOP.out.cells
  clear he
  go_enter Try.func28, Try.ntmps28
  go_wp2_with (go_at_call 35; refine (afresh_any _ _ _ es _ (HE.out.below HB1.out) (by omega)).mono ?_; rintro e w1 ⟨⟨g, rfl, hr, hg⟩, hb⟩; have HR := hide hr; have HB2 := hide (Below.on HB1.out hb); have hgg : w.heap.size ≤ g := Nat.le_trans HB1.out.size hg; clear hr hb hg)
  go_ret2
  exact ⟨outP_new (newAt_row HR.out hgg HE.out.1 (by omega) HE.out.2.2.1) 0, HB2.out⟩

set_option maxRecDepth 100000 in
set_option maxHeartbeats 2000000 in
theorem Dims_fill (x : Int) (ea : Option Addr) (el ec : Nat) (es : List Int) (A : Option Addr) (cap : Nat) (w : World) (he : Ints w ea el es) (hz : sizeE es = 0) :
    Calls Try.prog 7 #[.agg #[.int .i64 2, .slice ea el ec, .slice none 0 0, .slice none 0 0, .slice none 0 0, .slice none 0 0, .int .i64 x], .slice A 0 cap] w fun e w' => OutP e w' (es, 0) ∧ Below w.heap.size w w' := by
  have HE := hide he
  have HZ := hide hz
  have h6 : el ≤ 6 := by have := (sizeE_ok hz).1; have := he.1; omega
  have HB1 := hide ((Below.refl w.heap.size w).alloc (Nat.le_refl _) (.cells #[.int .i64 2, .slice ea el ec, .slice none 0 0, .slice none 0 0, .slice none 0 0, .slice none 0 0, .int .i64 x] 24))
  have HOP := hide (OpAt.new w 2 (.slice ea el ec) (.slice none 0 0) (.slice none 0 0) (.slice none 0 0) (.slice none 0 0) x)
  have HTK := hide (show takesE 2 0 = 0 by decide)
  obtain ⟨o0, o1, o2, o3, o4, o5, o6⟩ := HOP.out.cells
  clear he hz
  go_enter Try.func7, Try.ntmps7
  go_wp2_with (go_at_call 26; refine (takes_any 2 0 _).mono ?_; rintro e w' ⟨rfl, hw'⟩; obtain rfl := hw'.symm; rw [HTK.out])
  go_loopw [25] (fun i wr => i = .int .i64 0 ∧ OpAt wr w.heap.size 2 (.slice ea el ec) (.slice none 0 0) (.slice none 0 0) (.slice none 0 0) (.slice none 0 0) x ∧ Below w.heap.size w wr) (fun _ _ => 0)
  case atStart => exact ⟨rfl, HOP.out, HB1.out⟩
  case round =>
    obtain ⟨rfl, ho, hB⟩ := hrel
    have HO := hide ho
    have HB := hide hB
    clear o0 o1 o2 o3 o4 o5 o6
    obtain ⟨o0, o1, o2, o3, o4, o5, o6⟩ := HO.out.cells
    clear ho hB
    go_wp2_with (first
      | (go_at_call 28; refine (shape_fill x ea el ec es _ _ (HE.out.below HB.out) h6).mono ?_; rintro e w2 ⟨⟨Z, nz, cz, rfl, hi, hnc⟩, hb⟩; have HI := hide hi; have HB2 := hide (Below.on HB.out hb); clear hi hb)
      | (go_at_call 27; refine (size_any _ _ _ es _ HI.out).mono ?_; rintro e w' ⟨rfl, hw'⟩; obtain rfl := hw'.symm; rw [HZ.out]))
    go_ret2
    exact ⟨⟨Z, nz, cz, rfl, HI.out, hnc⟩, HB2.out⟩

set_option maxRecDepth 100000 in
set_option maxHeartbeats 4000000 in
theorem Do_fill (x : Int) (ea : Option Addr) (el ec : Nat) (es : List Int) (n : Nat) (w : World) (he : Ints w ea el es) (hE : arrE es n = 0) (hx : -9223372036854775808 ≤ x ∧ x ≤ 9223372036854775807) :
    Calls Try.prog 24 #[.agg #[.int .i64 2, .slice ea el ec, .slice none 0 0, .slice none 0 0, .slice none 0 0, .slice none 0 0, .int .i64 x], .slice none 0 0] w fun e w' => DoesTo w es (List.replicate n x) n e w' ∧ Below w.heap.size w w' := by
  have hz := (arrE_ok hE).1
  have hN := (arrE_ok hE).2.1
  have hn6 := (arrE_ok hE).2.2
  have HE := hide he
  have HZ := hide hz
  have HN := hide hN
  have HXB := hide hx
  have HTK := hide (show takesE 2 0 = 0 by decide)
  have HB1 := hide ((Below.refl w.heap.size w).alloc (Nat.le_refl _) (.cells #[.int .i64 2, .slice ea el ec, .slice none 0 0, .slice none 0 0, .slice none 0 0, .slice none 0 0, .int .i64 x] 24))
  have HB2 := hide (HB1.out.alloc HB1.out.size (.cells #[.slice none 0 0, .slice none 0 0] 28))
  have HOP := hide ((OpAt.new w 2 (.slice ea el ec) (.slice none 0 0) (.slice none 0 0) (.slice none 0 0) (.slice none 0 0) x).alloc (.cells #[.slice none 0 0, .slice none 0 0] 28))
  have har := ArrAt.new (w.alloc (.cells #[.int .i64 2, .slice ea el ec, .slice none 0 0, .slice none 0 0, .slice none 0 0, .slice none 0 0, .int .i64 x] 24)) (.slice none 0 0) (.slice none 0 0)
  simp only [World.size_alloc] at har
  have HAR := hide har
  obtain ⟨o0, o1, o2, o3, o4, o5, o6⟩ := HOP.out.cells
  have hmk := run_make_row' (P := Try.prog) 25 22 (.slice none 0 0) 24 Try.underlying25 info_ints rfl .i64 .i64 0 (by omega) (by omega)
  rw [show ((0 : Nat) : Int) = 0 from rfl] at hmk
  have hmk2 := run_make_row' (P := Try.prog) 26 2 (.int .i64 0) 8 Try.underlying26 info_int64 rfl .i64 .i64 n (by omega) (by omega)
  clear he har hE hN hz hx
  go_enter Try.func24, Try.ntmps24
  go_wp2_with (go_at_call 26; refine (takes_any 2 0 _).mono ?_; rintro e w' ⟨rfl, hw'⟩; obtain rfl := hw'.symm; rw [HTK.out])
  go_loopw [28] (fun i wr => i = .int .i64 0 ∧ OpAt wr w.heap.size 2 (.slice ea el ec) (.slice none 0 0) (.slice none 0 0) (.slice none 0 0) (.slice none 0 0) x ∧ ArrAt wr (w.heap.size + 1) (.slice none 0 0) (.slice none 0 0) ∧ Below w.heap.size w wr) (fun _ _ => 0)
  case atStart => exact ⟨rfl, HOP.out.alloc _, HAR.out.alloc _, HB2.out.alloc HB2.out.size _⟩
  case round =>
    obtain ⟨rfl, ho, ha, hB⟩ := hrel
    have HO := hide ho
    have HA := hide ha
    have HB := hide hB
    clear o0 o1 o2 o3 o4 o5 o6
    obtain ⟨o0, o1, o2, o3, o4, o5, o6⟩ := HO.out.cells
    clear ho ha hB
    by_cases hn0 : (0 : Int) < (n : Int)
    · go_wp2_with (first
        | (go_at_call 37; refine (work_fill x _ _ _ _ _ Z nz cz w1.heap.size n _ _ ((World.rowIs_made w1 (.int .i64 0) n 2).of_block (Below.heap_alloc _ _ _ (by simp))) (by omega)).mono ?_; rintro e w6 ⟨rfl, hr6, hsv⟩; have hs0 := HBa.out.size; have ha0 := HA2.out.lt; have HR6 := hide hr6; have HX6 : Hid (ArrAt w6 (w1.heap.size + 1) _ _) := (hsv.1 (w1.heap.size + 1) (by simp) (by omega)).trans HX5.out; have HA6 : Hid (ArrAt w6 (w.heap.size + 1) _ _) := (hsv.1 (w.heap.size + 1) (by simp; omega) (by omega)).trans HA5.out; have HI6 := hide (ints_save HI1.out (((Below.refl _ _).alloc (Nat.le_refl _) (.cells (madeCells #[.int .i64 0] n) 2)).alloc (by simp) (.cells #[.slice Z nz cz, .slice (some ⟨w1.heap.size, 0, none⟩) n n] 28)) hsv); have HB6 := hide (Save.below HB5.out hsv (by omega) (Nat.le_refl _)); clear hsv hr6 x0 x1 o0 o1 o2 o3 o4 o5 o6; obtain ⟨⟨x0, x1⟩, _⟩ := HX6.out.cells; obtain ⟨⟨a0, a1⟩, fa0, fa1⟩ := HA6.out.cells)
        | (go_at_call 32; refine (count_any _ _ _ es _ HI1.out (count_ok HZ.out)).mono ?_; rintro e w' ⟨rfl, hw'⟩; obtain rfl := hw'.symm; rw [← HN.out]; have HO5 := hide ((HO2.out.alloc (.cells (madeCells #[.int .i64 0] n) 2)).alloc (.cells #[.slice Z nz cz, .slice (some ⟨w1.heap.size, 0, none⟩) n n] 28)); have HA5 := hide ((HA2.out.alloc (.cells (madeCells #[.int .i64 0] n) 2)).alloc (.cells #[.slice Z nz cz, .slice (some ⟨w1.heap.size, 0, none⟩) n n] 28)); have HB5 := hide ((HBa.out.alloc HBa.out.size (.cells (madeCells #[.int .i64 0] n) 2)).alloc (HBa.out.alloc HBa.out.size (.cells (madeCells #[.int .i64 0] n) 2)).size (.cells #[.slice Z nz cz, .slice (some ⟨w1.heap.size, 0, none⟩) n n] 28)); have hx5 := ArrAt.new (w1.alloc (.cells (madeCells #[.int .i64 0] n) 2)) (.slice Z nz cz) (.slice (some ⟨w1.heap.size, 0, none⟩) n n); simp only [World.size_alloc] at hx5; have HX5 := hide hx5; clear o0 o1 o2 o3 o4 o5 o6 hx5; obtain ⟨o0, o1, o2, o3, o4, o5, o6⟩ := HO5.out.cells; obtain ⟨⟨x0, x1⟩, _⟩ := HX5.out.cells)
        | (go_at_call 7; refine (Dims_fill x ea el ec es _ _ _ (HE.out.below HB.out) HZ.out).mono ?_; rintro e w1 ⟨⟨Z, nz, cz, rfl, hi1, hnc⟩, hb⟩; have HI1 : Hid (Ints w1 Z nz es) := hi1; have HBa := hide (Below.on HB.out hb); have hna := HA.out.lt; have HO2 := hide (HO.out.below hb); have HA2 := hide (HA.out.below hb); clear hi1 hb o0 o1 o2 o3 o4 o5 o6; obtain ⟨o0, o1, o2, o3, o4, o5, o6⟩ := HO2.out.cells))
      have hs1 := HBa.out.size
      have ha1 := HA2.out.lt
      obtain ⟨⟨u0, u1⟩, _⟩ := (HA6.out.put (.slice Z nz cz) (.slice (some ⟨w1.heap.size, 0, none⟩) n n)).cells
      refine bodyPost_ret (v := .tuple #[.agg #[.slice Z nz cz, .slice (some ⟨w1.heap.size, 0, none⟩) n n], .int .i64 0]) (by simp [results, Try.results24, go_sem, u0, u1]) rfl ⟨⟨Z, nz, cz, w1.heap.size, rfl, ⟨?_, hnc⟩, ?_, hs1⟩, ?_⟩
      · exact ints_put_arr HI6.out HA6.out (fun _ _ e => by cases e) (fun _ _ e => by cases e) _ _
      · have hr8 := (HR6.out.setOther (a := ⟨w.heap.size + 1, 0, none⟩) (by simp; omega) (.slice Z nz cz)).setOther (a := ⟨w.heap.size + 1, 1, none⟩) (by simp; omega) (.slice (some ⟨w1.heap.size, 0, none⟩) n n)
        exact ⟨by simp, by omega, fun y hy => by simp at hy; rw [hy.2]; exact HXB.out, .inr ⟨_, _, rfl, fun t ht => by rw [Nat.zero_add]; exact hr8.cell ht⟩⟩
      · exact (HB6.out.setCell (p := ⟨w.heap.size + 1, 0, none⟩) (by simp) _).setCell (p := ⟨w.heap.size + 1, 1, none⟩) (by simp) _
    · have hn2 : decide ((0 : Int) < (n : Int)) = false := decide_eq_false hn0
      have hn3 : n = 0 := by omega
      have hn4 : decide (0 < n) = false := decide_eq_false (by omega)
      have hn5 : ¬ 0 < n := by omega
      have HN3 := hide hn3
      clear hn3 hn0
      go_wp2_with (first
        | (go_at_call 32; refine (count_any _ _ _ es _ HI1.out (count_ok HZ.out)).mono ?_; rintro e w' ⟨rfl, hw'⟩; obtain rfl := hw'.symm; rw [← HN.out]; have HO5 := hide ((HO2.out.alloc (.cells (madeCells #[.int .i64 0] n) 2)).alloc (.cells #[.slice Z nz cz, .slice (some ⟨w1.heap.size, 0, none⟩) n n] 28)); have HA5 := hide ((HA2.out.alloc (.cells (madeCells #[.int .i64 0] n) 2)).alloc (.cells #[.slice Z nz cz, .slice (some ⟨w1.heap.size, 0, none⟩) n n] 28)); have HB5 := hide ((HBa.out.alloc HBa.out.size (.cells (madeCells #[.int .i64 0] n) 2)).alloc (HBa.out.alloc HBa.out.size (.cells (madeCells #[.int .i64 0] n) 2)).size (.cells #[.slice Z nz cz, .slice (some ⟨w1.heap.size, 0, none⟩) n n] 28)); have hx5 := ArrAt.new (w1.alloc (.cells (madeCells #[.int .i64 0] n) 2)) (.slice Z nz cz) (.slice (some ⟨w1.heap.size, 0, none⟩) n n); simp only [World.size_alloc] at hx5; have HX5 := hide hx5; clear o0 o1 o2 o3 o4 o5 o6 hx5; obtain ⟨o0, o1, o2, o3, o4, o5, o6⟩ := HO5.out.cells; obtain ⟨⟨x0, x1⟩, _⟩ := HX5.out.cells; obtain ⟨⟨a0, a1⟩, fa0, fa1⟩ := HA5.out.cells)
        | (go_at_call 7; refine (Dims_fill x ea el ec es _ _ _ (HE.out.below HB.out) HZ.out).mono ?_; rintro e w1 ⟨⟨Z, nz, cz, rfl, hi1, hnc⟩, hb⟩; have HI1 : Hid (Ints w1 Z nz es) := hi1; have HBa := hide (Below.on HB.out hb); have hna := HA.out.lt; have HO2 := hide (HO.out.below hb); have HA2 := hide (HA.out.below hb); clear hi1 hb o0 o1 o2 o3 o4 o5 o6; obtain ⟨o0, o1, o2, o3, o4, o5, o6⟩ := HO2.out.cells))
      have hs1 := HBa.out.size
      have ha1 := HA2.out.lt
      obtain ⟨⟨u0, u1⟩, _⟩ := (HA5.out.put (.slice Z nz cz) (.slice (some ⟨w1.heap.size, 0, none⟩) n n)).cells
      refine bodyPost_ret (v := .tuple #[.agg #[.slice Z nz cz, .slice (some ⟨w1.heap.size, 0, none⟩) n n], .int .i64 0]) (by simp [results, Try.results24, go_sem, u0, u1]) rfl ⟨⟨Z, nz, cz, w1.heap.size, rfl, ⟨?_, hnc⟩, ?_, hs1⟩, ?_⟩
      · exact ints_put_arr (HI1.out.below (((Below.refl _ _).alloc (Nat.le_refl _) _).alloc (by simp) _)) HA5.out (fun _ _ e => by cases e) (fun _ _ e => by cases e) _ _
      · exact ⟨by simp, by omega, fun y hy => by simp at hy; rw [hy.2]; exact HXB.out, .inl HN3.out⟩
      · exact (HB5.out.setCell (p := ⟨w.heap.size + 1, 0, none⟩) (by simp) _).setCell (p := ⟨w.heap.size + 1, 1, none⟩) (by simp) _
end Go.Proofs.Ytcidhbkdaleomaa.V
namespace Go.Proofs.Ytcidhbkdaleomaa.V
set_option maxRecDepth 20000
open Go Go.RowKit

theorem info_arr : (Try.prog.info? 28).map (fun i => (i.zero, i.size, i.bytes)) = some (some (.agg #[.slice none 0 0, .slice none 0 0]), 2, 48) := by kernel_rfl
/-- More arrays lie behind the first one. -/
def MoreAt (W : World) (B q : Nat) (vm : Nat → ArrV) : Prop := ∀ j, j < q → W.cell? ⟨B, 2 + j * 2, none⟩ = some (vm j).d ∧ W.cell? ⟨B, 2 + j * 2 + 1, none⟩ = some (vm j).x
theorem MoreAt.below {W W' : World} {B q : Nat} {vm : Nat → ArrV} (h : MoreAt W B q vm) (hb : Below W.heap.size W W') : MoreAt W' B q vm := fun j hj => ⟨(hb.cell (p := ⟨B, 2 + j * 2, none⟩) (lt_of_cell (h j hj).1)).trans (h j hj).1, (hb.cell (p := ⟨B, 2 + j * 2 + 1, none⟩) (lt_of_cell (h j hj).2)).trans (h j hj).2⟩
/-- The cells of arrays. -/
def cellsV (vm : Nat → ArrV) : Nat → List Value
  | 0 => []
  | q + 1 => cellsV vm q ++ [(vm q).d, (vm q).x]
theorem cellsV_length (vm : Nat → ArrV) : ∀ q, (cellsV vm q).length = q * 2
  | 0 => rfl
  | q + 1 => by rw [cellsV, List.length_append, cellsV_length vm q]; simp; omega
theorem cellsV_at (vm : Nat → ArrV) : ∀ (q j : Nat), j < q → (cellsV vm q)[j * 2]? = some (vm j).d ∧ (cellsV vm q)[j * 2 + 1]? = some (vm j).x
  | 0, j, h => by omega
  | q + 1, j, h => by
    rw [cellsV]
    by_cases e : j = q
    · subst e
      rw [List.getElem?_append_right (by rw [cellsV_length]; omega), List.getElem?_append_right (by rw [cellsV_length]; omega), cellsV_length]
      simp
    · have ih := cellsV_at vm q j (by omega)
      have hl := cellsV_length vm q
      rw [List.getElem?_append_left (by omega), List.getElem?_append_left (by omega)]
      exact ih
/-- The arguments: one array, and more. -/
def ArgsAt (N : Nat) (c0 c1 : Value) (q : Nat) (vm : Nat → ArrV) (v : Value) (W : World) : Prop := ∃ B cap, v = .slice (some ⟨B, 0, none⟩) (1 + q) cap ∧ (W.cell? ⟨B, 0, none⟩ = some c0 ∧ W.cell? ⟨B, 1, none⟩ = some c1 ∧ MoreAt W B q vm) ∧ N ≤ B
def fRow2 (N : Nat) (c0 c1 : Value) : Fact := ⟨fun v W => ∃ B, v = .slice (some ⟨B, 0, none⟩) 1 1 ∧ ArrAt W B c0 c1 ∧ N ≤ B, false⟩
theorem fRow2_good (N : Nat) (c0 c1 : Value) : (fRow2 N c0 c1).Good := ⟨fun _ _ _ ⟨B, h1, h2, h3⟩ hb => ⟨B, h1, h2.below hb, h3⟩, fun h => by cases h⟩
def fArgs (N : Nat) (c0 c1 : Value) (q : Nat) (vm : Nat → ArrV) : Fact := ⟨ArgsAt N c0 c1 q vm, false⟩
theorem fArgs_good (N : Nat) (c0 c1 : Value) (q : Nat) (vm : Nat → ArrV) : (fArgs N c0 c1 q vm).Good := ⟨fun _ _ _ ⟨B, cap, h1, ⟨h2, h3, h4⟩, h5⟩ hb => ⟨B, cap, h1, ⟨(hb.cell (p := ⟨B, 0, none⟩) (lt_of_cell h2)).trans h2, (hb.cell (p := ⟨B, 1, none⟩) (lt_of_cell h3)).trans h3, h4.below hb⟩, h5⟩, fun h => by cases h⟩
def fAgg (L f : List Int) (n : Nat) : Fact := ⟨fun v W => ∃ Z nz cz G, v = .agg #[.slice Z nz cz, .slice (some ⟨G, 0, none⟩) n n] ∧ (Ints W Z nz L ∧ nz ≤ cz) ∧ Ints W (some ⟨G, 0, none⟩) n f, false⟩
theorem fAgg_good (L f : List Int) (n : Nat) : (fAgg L f n).Good := ⟨fun _ _ _ ⟨Z, nz, cz, G, h1, ⟨h2, h3⟩, h4⟩ hb => ⟨Z, nz, cz, G, h1, ⟨h2.below hb, h3⟩, h4.below hb⟩, fun h => by cases h⟩
def fDo (L f : List Int) (n : Nat) : Fact := ⟨fun v W => ∃ Z nz cz G, v = .tuple #[.agg #[.slice Z nz cz, .slice (some ⟨G, 0, none⟩) n n], .int .i64 0] ∧ (Ints W Z nz L ∧ nz ≤ cz) ∧ Ints W (some ⟨G, 0, none⟩) n f, false⟩
theorem fDo_good (L f : List Int) (n : Nat) : (fDo L f n).Good := ⟨fun _ _ _ ⟨Z, nz, cz, G, h1, ⟨h2, h3⟩, h4⟩ hb => ⟨Z, nz, cz, G, h1, ⟨h2.below hb, h3⟩, h4.below hb⟩, fun h => by cases h⟩
def fArr (N : Nat) : Fact := ⟨fun v W => ∃ C, v = .pointer (some ⟨C, 0, none⟩) ∧ ArrAt W C (.slice none 0 0) (.slice none 0 0) ∧ N ≤ C, true⟩
theorem fArr_good (N : Nat) : (fArr N).Good := ⟨fun _ _ _ ⟨C, h1, h2, h3⟩ hb => ⟨C, h1, h2.below hb, h3⟩, fun _ v w b ⟨C, h1, h2, h3⟩ hb => by
  rw [h1] at hb
  simp only [blk, Option.some.injEq] at hb
  rw [← hb]
  exact h2.lt⟩

/-- append of more arrays onto a list of one. -/
theorem wp_append_more {P : Program} {w : World} {o : Oper} {a : Act} {K : Act → World → Prop} {Q : Exit → Act → World → Prop} (s x : Operand) (t e : TypeId) (ho : o.op = .call { callee := .builtin .append, args := #[s, x], argTypes := #[t, t] })
    (ht : P.underlying t = some (.slice e)) (hi : (P.info? e).map (fun i => (i.zero, i.size, i.bytes)) = some (some (.agg #[.slice none 0 0, .slice none 0 0]), 2, 48))
    (N B q mc : Nat) (c0 c1 : Value) (A : Option Addr) (vm : Nat → ArrV) (hs : a.eval s = .slice (some ⟨B, 0, none⟩) 1 1) (hx : a.eval x = .slice A q mc) (hB : w.heap[B]? = some (.cells #[c0, c1] e (0, 0))) (hN : N ≤ B) (hw : N ≤ w.heap.size)
    (hA : q = 0 ∨ ∃ b off, A = some ⟨b, off, none⟩ ∧ ∀ j, j < q → w.cell? ⟨b, off + j * 2, none⟩ = some (vm j).d ∧ w.cell? ⟨b, off + j * 2 + 1, none⟩ = some (vm j).x) (h0 : A = none → q = 0 ∧ mc = 0) (hq : q ≤ 1048576)
    (h : ∀ v w', ArgsAt N c0 c1 q vm v w' → Below w.heap.size w w' → K (a.put o.dst v) w') : o.wp P a w K Q := by
  obtain ⟨i, hi1, hz, hsz, hby⟩ : ∃ i, P.info? e = some i ∧ i.zero = some (.agg #[.slice none 0 0, .slice none 0 0]) ∧ i.size = 2 ∧ i.bytes = 48 := by
    cases hh : P.info? e with
    | none => rw [hh] at hi; cases hi
    | some i =>
      rw [hh] at hi
      simp only [Option.map_some, Option.some.injEq, Prod.mk.injEq] at hi
      exact ⟨i, rfl, hi.1, hi.2.1, hi.2.2⟩
  have d0 : w.cell? ⟨B, 0, none⟩ = some c0 := by simp [World.cell?, hB]
  have d1 : w.cell? ⟨B, 1, none⟩ = some c1 := by simp [World.cell?, hB]
  by_cases hq0 : q = 0
  · subst hq0
    have key : ∃ w', (Builtin.append_ #[t, t] o.type #[.slice (some ⟨B, 0, none⟩) 1 1, .slice A 0 mc]).run P w = .ok (.slice (some ⟨B, 0, none⟩) 1 1) w' ∧ Below w.heap.size w w' := by
      cases A with
      | none =>
        obtain ⟨_, rfl⟩ := h0 rfl
        have hr := run_append_owned_none (P := P) (w := w) 0 t o.type e i 2 ht hi1 (.slice (some ⟨B, 0, none⟩) 1 1) 1 [c0, c1] ⟨rfl, .inr ⟨B, 1, #[c0, c1], rfl, Nat.zero_le _, hB, Nat.le_refl _, by unfold maxLen; omega, by simp, by simp⟩⟩
        exact ⟨w, hr, Below.refl _ _⟩
      | some ad =>
        have hr := run_append_room_cells (P := P) w t o.type e i ht hi1 B 0 1 1 ad 0 mc [] (by simp) (by simp) (by simp) (Nat.le_refl _) (by simp) (by simp)
        exact ⟨_, hr, by simpa [World.setCells] using Below.refl _ w⟩
    obtain ⟨w', hr, hb⟩ := key
    unfold Oper.wp
    simp [execOp, ho, resolve, invoke, builtin, hs, hx, hr, Result.andThen]
    exact h _ _ ⟨B, 1, rfl, ⟨(hb.cell (p := ⟨B, 0, none⟩) (lt_of_cell d0)).trans d0, (hb.cell (p := ⟨B, 1, none⟩) (lt_of_cell d1)).trans d1, fun j hj => by omega⟩, hN⟩ hb
  · obtain ⟨b, off, rfl, hc⟩ := hA.resolve_left hq0
    obtain ⟨v', w', hr, r1, r2⟩ := run_append_arg_grows (P := P) w t o.type e i (.agg #[.slice none 0 0, .slice none 0 0]) 2 48 ht hi1 hz hsz hby rfl (by omega) ⟨B, 0, none⟩ 1 1 [c0, c1] rfl (fun j u hj => by
        rw [Addr.add_lit]
        match j, hj with
        | 0, hj => cases hj; simpa using d0
        | 1, hj => cases hj; simpa using d1) ⟨b, off, none⟩ q mc (cellsV vm q) (cellsV_length _ _) (fun j u hj => by
        rw [Addr.add_lit]
        have hjl : j < q * 2 := by
          have := (List.getElem?_eq_some_iff.1 hj).1
          rw [cellsV_length] at this; exact this
        have hm : j % 2 = 0 ∨ j % 2 = 1 := by omega
        have hcv := cellsV_at vm q (j / 2) (by omega)
        have hcc := hc (j / 2) (by omega)
        rcases hm with hm | hm
        · have e1 : j = j / 2 * 2 := by omega
          rw [e1] at hj ⊢
          rw [hcv.1] at hj; cases hj
          exact hcc.1
        · have e1 : j = j / 2 * 2 + 1 := by omega
          rw [e1] at hj ⊢
          rw [hcv.2] at hj; cases hj
          exact hcc.2) (by omega) (by unfold maxLen; omega) (by omega)
    have hb : Below w.heap.size w w' := (Below.refl _ w).grown r2 (Nat.le_refl _) (fun k hk => by cases hk)
    obtain ⟨g, cap, rfl, hg1, hg2⟩ := r1.form (by omega)
    rcases r1.2 with ⟨hv, _⟩ | ⟨g', cap', cur, hv, _, hgc, _, _, hcs, htk⟩
    · cases hv
    · cases hv
      unfold Oper.wp
      simp [execOp, ho, resolve, invoke, builtin, hs, hx, hr, Result.andThen]
      have hcell : ∀ j, j < (1 + q) * 2 → w'.cell? ⟨g, j, none⟩ = ([c0, c1] ++ cellsV vm q)[j]? := fun j hj => by
        rw [← htk, List.getElem?_take_of_lt (by omega), Array.getElem?_toList]
        simp [World.cell?, hgc]
      refine h _ _ ⟨g, cap, rfl, ⟨?_, ?_, fun j hj => ⟨?_, ?_⟩⟩, by omega⟩ hb
      · rw [hcell 0 (by omega)]; rfl
      · rw [hcell 1 (by omega)]; rfl
      · rw [hcell _ (by omega), List.getElem?_append_right (by simp only [List.length_cons, List.length_nil]; omega)]
        rw [show 2 + j * 2 - [c0, c1].length = j * 2 by simp only [List.length_cons, List.length_nil]; omega]
        exact (cellsV_at vm q j hj).1
      · rw [hcell _ (by omega), List.getElem?_append_right (by simp only [List.length_cons, List.length_nil]; omega)]
        rw [show 2 + j * 2 + 1 - [c0, c1].length = j * 2 + 1 by simp only [List.length_cons, List.length_nil]; omega]
        exact (cellsV_at vm q j hj).2

set_option maxRecDepth 100000 in
set_option maxHeartbeats 2000000 in
theorem one0_fill (x : Int) (ea : Option Addr) (el ec : Nat) (es : List Int) (n : Nat) (w : World) (he : Ints w ea el es) (hE : arrE es n = 0) (hx : -9223372036854775808 ≤ x ∧ x ≤ 9223372036854775807) :
    Calls Try.prog 25 #[.agg #[.int .i64 2, .slice ea el ec, .slice none 0 0, .slice none 0 0, .slice none 0 0, .slice none 0 0, .int .i64 x]] w fun e w' =>
      (∃ (Z : Option Addr) (nz cz G : Nat), e = .returned (.tuple #[.agg #[.slice Z nz cz, .slice (some ⟨G, 0, none⟩) n n], .bool true]) ∧ (Ints w' Z nz es ∧ nz ≤ cz) ∧ Ints w' (some ⟨G, 0, none⟩) n (List.replicate n x)) ∧ Below w.heap.size w w' := by
  have HB1 := (Below.refl w.heap.size w).alloc (Nat.le_refl _) (.cells #[.int .i64 2, .slice ea el ec, .slice none 0 0, .slice none 0 0, .slice none 0 0, .slice none 0 0, .int .i64 x] 24)
  have HB := hide (HB1.alloc HB1.size (.cells #[.slice none 0 0, .slice none 0 0] 28))
  have b1 := (OpAt.new w 2 (.slice ea el ec) (.slice none 0 0) (.slice none 0 0) (.slice none 0 0) (.slice none 0 0) x).alloc (.cells #[.slice none 0 0, .slice none 0 0] 28)
  have a3 := ArrAt.new (w.alloc (.cells #[.int .i64 2, .slice ea el ec, .slice none 0 0, .slice none 0 0, .slice none 0 0, .slice none 0 0, .int .i64 x] 24)) (.slice none 0 0) (.slice none 0 0)
  simp only [World.size_alloc] at a3
  obtain ⟨o0, o1, o2, o3, o4, o5, o6⟩ := b1.cells
  have HA3 := hide a3
  have HS := hide (Do_fill x ea el ec es n _ (he.below HB.out) hE hx)
  clear b1 a3 HB1 he
  go_enter Try.func25, Try.ntmps25
  go_wp2_with (go_at_call 24; refine HS.out.mono ?_; rintro e w1 ⟨⟨Z, nz, cz, G, rfl, ⟨hi1, hnc⟩, hi2, hg⟩, hb⟩; have HI1 := hide hi1; have HI2 := hide hi2; have HB7 := hide (Below.on HB.out hb); have HA7 := hide (HA3.out.below hb); have HA8 := hide (HA7.out.alloc (.cells #[.slice Z nz cz, .slice (some ⟨G, 0, none⟩) n n] 28)); have HB8 := hide (HB7.out.alloc HB7.out.size (.cells #[.slice Z nz cz, .slice (some ⟨G, 0, none⟩) n n] 28)); obtain ⟨⟨a0, a1⟩, fa0, fa1⟩ := HA8.out.cells; clear hi1 hi2 hb o0 o1 o2 o3 o4 o5 o6 hg)
  obtain ⟨⟨u0, u1⟩, _⟩ := (HA8.out.put (.slice Z nz cz) (.slice (some ⟨G, 0, none⟩) n n)).cells
  have hl := HA7.out.lt
  have HBF := hide ((HB8.out.setCell (p := ⟨w.heap.size + 1, 0, none⟩) (by simp) (.slice Z nz cz)).setCell (p := ⟨w.heap.size + 1, 1, none⟩) (by simp) (.slice (some ⟨G, 0, none⟩) n n))
  refine bodyPost_ret (v := .tuple #[.agg #[.slice Z nz cz, .slice (some ⟨G, 0, none⟩) n n], .bool true]) (by simp [results, Try.results25, go_sem, u0, u1]) rfl ⟨⟨Z, nz, cz, G, rfl, ⟨?_, hnc⟩, ?_⟩, HBF.out⟩
  · exact ints_put_arr (HI1.out.below ((Below.refl _ _).alloc (Nat.le_refl _) _)) HA8.out (fun _ _ e => by cases e) (fun _ _ e => by cases e) _ _
  · exact ints_put_arr (HI2.out.below ((Below.refl _ _).alloc (Nat.le_refl _) _)) HA8.out (fun _ _ e => by cases e) (fun _ _ e => by cases e) _ _

def linK (k : Int) : Prop := k = 9 ∨ k = 10 ∨ k = 11 ∨ k = 12 ∨ k = 13 ∨ k = 14 ∨ k = 15 ∨ k = 16 ∨ k = 18 ∨ k = 19
set_option maxRecDepth 100000 in
set_option maxHeartbeats 2000000 in
theorem linear_yes (k : Int) (w : World) (h : linK k) : Calls Try.prog 23 #[.int .i64 k] w fun e w' => e = .returned (.bool true) ∧ w' = w := by
  rcases h with rfl | rfl | rfl | rfl | rfl | rfl | rfl | rfl | rfl | rfl
  all_goals go_enter Try.func23, Try.ntmps23
  all_goals go_wp2
  all_goals go_ret
  all_goals exact ⟨rfl, rfl⟩
set_option maxRecDepth 100000 in
set_option maxHeartbeats 2000000 in
theorem linear_no (k : Int) (w : World) (h : ¬ linK k) : Calls Try.prog 23 #[.int .i64 k] w fun e w' => e = .returned (.bool false) ∧ w' = w := by
  unfold linK at h
  have q9 : (k == 9) = false := by simp; omega
  have q10 : (k == 10) = false := by simp; omega
  have q11 : (k == 11) = false := by simp; omega
  have q12 : (k == 12) = false := by simp; omega
  have q13 : (k == 13) = false := by simp; omega
  have q14 : (k == 14) = false := by simp; omega
  have q15 : (k == 15) = false := by simp; omega
  have q16 : (k == 16) = false := by simp; omega
  have q18 : (k == 18) = false := by simp; omega
  have q19 : (k == 19) = false := by simp; omega
  clear h
  go_enter Try.func23, Try.ntmps23
  go_wp2
  go_ret
  exact ⟨rfl, rfl⟩

/-- Of one array, and of more that are as they are, Do makes what goes with sums. -/
def LinQ (w : World) (op : Value) (ds : List Int) (n q : Nat) (vm : Nat → ArrV) : Prop :=
  ∃ (L : List Int) (N : Nat) (f : List Int → List Int), IsLin f n N ∧ arrE L N = 0 ∧ ∀ (W : World) (b cap : Nat) (da : Option Addr) (dl dc : Nat) (xa : Option Addr) (xc : Nat) (xs : List Int),
    Below w.heap.size w W → W.cell? ⟨b, 0, none⟩ = some (.slice da dl dc) → W.cell? ⟨b, 1, none⟩ = some (.slice xa n xc) → MoreAt W b q vm → Lst W da dl dc ds → Ints W xa n xs → n ≤ xc →
    Calls Try.prog 24 #[op, .slice (some ⟨b, 0, none⟩) (1 + q) cap] W fun e W' => DoesTo W L (f xs) N e W' ∧ Below W.heap.size W W'
theorem linQ_one {w : World} {op : Value} {ds : List Int} {n : Nat} {vm : Nat → ArrV} (h : Lin1 w op ds n) : LinQ w op ds n 0 vm := by
  obtain ⟨L, N, f, h1, h2, h3⟩ := h
  exact ⟨L, N, f, h1, h2, fun W b cap da dl dc xa xc xs hW c0 c1 _ hd hx hxc => h3 W b 0 cap da dl dc xa xc xs hW c0 c1 hd hx hxc⟩
theorem linQ_two {w : World} {op : Value} {ds : List Int} {n : Nat} {vm : Nat → ArrV} (h : Lin2 w op ds n (vm 0).da (vm 0).dl (vm 0).dc (vm 0).xa (vm 0).xl (vm 0).xc) : LinQ w op ds n 1 vm := by
  obtain ⟨L, N, f, h1, h2, h3⟩ := h
  exact ⟨L, N, f, h1, h2, fun W b cap da dl dc xa xc xs hW c0 c1 hm hd hx hxc => h3 W b 0 cap da dl dc xa xc xs hW c0 c1 (hm 0 (by omega)).1 (hm 0 (by omega)).2 hd hx hxc⟩
/-- The arguments' dimensions. -/
def argsV (ds : List Int) (n : Nat) (vm : Nat → ArrV) (j : Nat) : ArrV := if j = 0 then ⟨none, 0, 0, ds, none, n, 0⟩ else vm (j - 1)
theorem linQ_any (k : Int) (hk : linK k) (x : Int) (ea : Option Addr) (el ec : Nat) (es : List Int) (pa : Option Addr) (pl pc : Nat) (ps : List Int) (la : Option Addr) (ll lc : Nat) (lo : List Int) (ha : Option Addr) (hl hc : Nat) (hi : List Int) (ta : Option Addr) (tl tc : Nat) (st : List Int) (ds : List Int) (n q : Nat) (vm : Nat → ArrV) (ys : List Int) (w : World)
    (he : Lst w ea el ec es) (hp : Lst w pa pl pc ps) (hlo : Lst w la ll lc lo) (hhi : Lst w ha hl hc hi) (hst : Lst w ta tl tc st) (b0 : el ≤ 1048576) (b1 : pl ≤ 1048576) (b2 : ll ≤ 1048576) (b3 : hl ≤ 1048576) (b4 : tl ≤ 1048576) (hq : 1 ≤ q → Lst w (vm 0).da (vm 0).dl (vm 0).dc (vm 0).ds ∧ Ints w (vm 0).xa (vm 0).xl ys) (hE : doE k es ps lo hi st (1 + q) (argsV ds n vm) = 0) : LinQ w (.agg #[.int .i64 k, .slice ea el ec, .slice pa pl pc, .slice la ll lc, .slice ha hl hc, .slice ta tl tc, .int .i64 x]) ds n q vm := by
  have ht := (doE_ok hE).1
  have e1 : q = 0 → doE k es ps lo hi st 1 (oneV ds n) = 0 := fun h => by
    subst h
    exact (doE_congr (fun j hj => by obtain rfl : j = 0 := by { omega }; exact ⟨rfl, rfl⟩)).trans hE
  have e2 : q = 1 → doE k es ps lo hi st 2 (pairV ds n (vm 0).ds (vm 0).xl) = 0 := fun h => by
    subst h
    refine (doE_congr (fun j hj => ?_)).trans hE
    have : j = 0 ∨ j = 1 := by omega
    rcases this with rfl | rfl
    · exact ⟨rfl, rfl⟩
    · exact ⟨rfl, rfl⟩
  have t1 : 9 ≤ k → k ≤ 15 → q = 0 := fun h1 h2 => by
    unfold takesE at ht
    rw [if_neg (by omega), if_pos ⟨h1, h2⟩] at ht
    by_cases h : 1 + q = 1
    · omega
    · rw [if_neg h] at ht; omega
  have t2 : k = 16 ∨ k = 18 ∨ k = 19 → q = 1 := fun h => by
    unfold takesE at ht
    rw [if_neg (by omega), if_neg (by omega), if_pos (by omega)] at ht
    by_cases h : 1 + q = 2
    · omega
    · rw [if_neg h] at ht; omega
  rcases hk with rfl | rfl | rfl | rfl | rfl | rfl | rfl | rfl | rfl | rfl
  · obtain rfl := t1 (by omega) (by omega)
    exact linQ_one (lin_spread x ea el ec es pa pl pc ps la ll lc lo ha hl hc hi ta tl tc st ds n w he hp hlo hhi hst b0 b1 b2 b3 b4 (e1 rfl))
  · obtain rfl := t1 (by omega) (by omega)
    exact linQ_one (lin_sum x ea el ec es pa pl pc ps la ll lc lo ha hl hc hi ta tl tc st ds n w he hp hlo hhi hst b0 b1 b2 b3 b4 (e1 rfl))
  · obtain rfl := t1 (by omega) (by omega)
    exact linQ_one (lin_turn x ea el ec es pa pl pc ps la ll lc lo ha hl hc hi ta tl tc st ds n w he hp hlo hhi hst b0 b1 b2 b3 b4 (e1 rfl))
  · obtain rfl := t1 (by omega) (by omega)
    exact linQ_one (lin_reform x ea el ec es pa pl pc ps la ll lc lo ha hl hc hi ta tl tc st ds n w he hp hlo hhi hst b0 b1 b2 b3 b4 (e1 rfl))
  · obtain rfl := t1 (by omega) (by omega)
    exact linQ_one (lin_cut x ea el ec es pa pl pc ps la ll lc lo ha hl hc hi ta tl tc st ds n w he hp hlo hhi hst b0 b1 b2 b3 b4 (e1 rfl))
  · obtain rfl := t1 (by omega) (by omega)
    exact linQ_one (lin_pad x ea el ec es pa pl pc ps la ll lc lo ha hl hc hi ta tl tc st ds n w he hp hlo hhi hst b0 b1 b2 b3 b4 (e1 rfl))
  · obtain rfl := t1 (by omega) (by omega)
    exact linQ_one (lin_flip x ea el ec es pa pl pc ps la ll lc lo ha hl hc hi ta tl tc st ds n w he hp hlo hhi hst b0 b1 b2 b3 b4 (e1 rfl))
  · obtain rfl := t2 (by omega)
    obtain ⟨hf, hy⟩ := hq (by omega)
    exact linQ_two (lin_dot2 x ea el ec es pa pl pc ps la ll lc lo ha hl hc hi ta tl tc st ds n (vm 0).da (vm 0).dl (vm 0).dc (vm 0).ds (vm 0).xa (vm 0).xl (vm 0).xc ys w he hp hlo hhi hst b0 b1 b2 b3 b4 hf hy (e2 rfl))
  · obtain rfl := t2 (by omega)
    obtain ⟨hf, hy⟩ := hq (by omega)
    exact linQ_two (lin_take2 x ea el ec es pa pl pc ps la ll lc lo ha hl hc hi ta tl tc st ds n (vm 0).da (vm 0).dl (vm 0).dc (vm 0).ds (vm 0).xa (vm 0).xl (vm 0).xc ys w he hp hlo hhi hst b0 b1 b2 b3 b4 hf hy (e2 rfl))
  · obtain rfl := t2 (by omega)
    obtain ⟨hf, hy⟩ := hq (by omega)
    exact linQ_two (lin_put2 x ea el ec es pa pl pc ps la ll lc lo ha hl hc hi ta tl tc st ds n (vm 0).da (vm 0).dl (vm 0).dc (vm 0).ds (vm 0).xa (vm 0).xl (vm 0).xc ys w he hp hlo hhi hst b0 b1 b2 b3 b4 hf hy (e2 rfl))
end Go.Proofs.Ytcidhbkdaleomaa.V
namespace Go.Proofs.Ytcidhbkdaleomaa.V
set_option maxRecDepth 20000
open Go.RowKit

set_option maxRecDepth 100000 in
set_option maxHeartbeats 4000000 in
theorem linear_not (k by' : Int) (vd va vl vh vs : Value) (x : Int) (da : Option Addr) (dl dc : Nat) (xa : Option Addr) (n xc : Nat) (fa : Option Addr) (fl fc : Nat) (ya : Option Addr) (m yc : Nat) (mv : Value) (w : World) (hk : ¬ linK k) :
    Calls Try.prog 6 #[.agg #[.int .i64 k, vd, va, vl, vh, vs, .int .i64 x], .agg #[.slice da dl dc, .slice xa n xc], .agg #[.slice fa fl fc, .slice ya m yc], mv, .int .i64 by'] w fun e w' => e = .returned (.bool true) ∧ Below w.heap.size w w' := by
  have HNL := hide hk
  clear hk
  have HB1 := (Below.refl w.heap.size w).alloc (Nat.le_refl _) (.cells #[.int .i64 k, vd, va, vl, vh, vs, .int .i64 x] 24)
  have HB2 := HB1.alloc HB1.size (.cells #[.slice da dl dc, .slice xa n xc] 28)
  have HBW := hide (HB2.alloc HB2.size (.cells #[.slice fa fl fc, .slice ya m yc] 28))
  have r0 := ((OpAt.new w k vd va vl vh vs x).alloc (.cells #[.slice da dl dc, .slice xa n xc] 28)).alloc (.cells #[.slice fa fl fc, .slice ya m yc] 28)
  have r1 := (ArrAt.new (w.alloc (.cells #[.int .i64 k, vd, va, vl, vh, vs, .int .i64 x] 24)) (.slice da dl dc) (.slice xa n xc)).alloc (.cells #[.slice fa fl fc, .slice ya m yc] 28)
  have r2 := ArrAt.new ((w.alloc (.cells #[.int .i64 k, vd, va, vl, vh, vs, .int .i64 x] 24)).alloc (.cells #[.slice da dl dc, .slice xa n xc] 28)) (.slice fa fl fc) (.slice ya m yc)
  simp only [World.size_alloc] at r1 r2
  have HO0 := hide r0
  have HA0 := hide r1
  have HA1 := hide r2
  clear r0 r1 r2 HB1 HB2
  go_enter Try.func6, Try.ntmps6
  go_wp2_with (first
    | (go_at_call 23; refine (linear_no _ _ HNL.out).mono ?_; rintro e w' ⟨rfl, hw'⟩; obtain rfl := hw'.symm)
    | (go_at_call 22; refine (alive2_any _).mono ?_; rintro e w1 ⟨rfl, hb⟩; have HBa := hide (Below.on HBW.out hb); have HO1 := hide (HO0.out.below hb); have HAa := hide (HA0.out.below hb); have HAb := hide (HA1.out.below hb); clear hb; obtain ⟨o0, o1, o2, o3, o4, o5, o6⟩ := HO1.out.cells; obtain ⟨⟨a0, a1⟩, _⟩ := HAa.out.cells; obtain ⟨⟨b0', b1'⟩, _⟩ := HAb.out.cells))
  go_ret
  exact ⟨rfl, HBa.out⟩

set_option maxRecDepth 100000 in
set_option maxHeartbeats 4000000 in
theorem linear_unlike (k by' : Int) (vd va vl vh vs : Value) (x : Int) (da : Option Addr) (dl dc : Nat) (ds : List Int) (xa : Option Addr) (n xc : Nat) (fa : Option Addr) (fl fc : Nat) (gs : List Int) (ya : Option Addr) (m yc : Nat) (mv : Value) (w : World)
    (hk : linK k) (hda : Lst w da dl dc ds) (hdb : Lst w fa fl fc gs) (hng : ¬ Alikes 2 (twoV2 da dl dc ds xa n xc fa fl fc gs ya m yc)) :
    Calls Try.prog 6 #[.agg #[.int .i64 k, vd, va, vl, vh, vs, .int .i64 x], .agg #[.slice da dl dc, .slice xa n xc], .agg #[.slice fa fl fc, .slice ya m yc], mv, .int .i64 by'] w fun e w' => e = .returned (.bool true) ∧ Below w.heap.size w w' := by
  have HYL := hide hk
  have HNG := hide hng
  have h4 := fun (W : World) => FourAt.new (w := W) (B := W.heap.size) (.slice da dl dc) (.slice xa n xc) (.slice fa fl fc) (.slice ya m yc) rfl
  have HAL : Hid (∀ W, Below w.heap.size w W → Calls Try.prog 19 #[.slice (some ⟨W.heap.size, 0, none⟩) 2 2] (W.alloc (.cells #[.slice da dl dc, .slice xa n xc, .slice fa fl fc, .slice ya m yc] 28)) fun e w' => AlikePost 2 (twoV2 da dl dc ds xa n xc fa fl fc gs ya m yc) e ∧ Below (W.alloc (.cells #[.slice da dl dc, .slice xa n xc, .slice fa fl fc, .slice ya m yc] 28)).heap.size (W.alloc (.cells #[.slice da dl dc, .slice xa n xc, .slice fa fl fc, .slice ya m yc] 28)) w') := fun W hW => by
    obtain ⟨k0, k1, k2, k3⟩ := (h4 W).cells
    have hB4 := hW.alloc hW.size (.cells #[.slice da dl dc, .slice xa n xc, .slice fa fl fc, .slice ya m yc] 28)
    exact alike_any W.heap.size 2 2 (twoV2 da dl dc ds xa n xc fa fl fc gs ya m yc) _ (by omega) (by omega) (fun j hj => by
      have : j = 0 ∨ j = 1 := by omega
      rcases this with rfl | rfl
      · exact ⟨k0, k1, hda.1.below hB4⟩
      · exact ⟨k2, k3, hdb.1.below hB4⟩)
  clear h4
  clear hk hng hda hdb
  have HB1 := (Below.refl w.heap.size w).alloc (Nat.le_refl _) (.cells #[.int .i64 k, vd, va, vl, vh, vs, .int .i64 x] 24)
  have HB2 := HB1.alloc HB1.size (.cells #[.slice da dl dc, .slice xa n xc] 28)
  have HBW := hide (HB2.alloc HB2.size (.cells #[.slice fa fl fc, .slice ya m yc] 28))
  have r0 := ((OpAt.new w k vd va vl vh vs x).alloc (.cells #[.slice da dl dc, .slice xa n xc] 28)).alloc (.cells #[.slice fa fl fc, .slice ya m yc] 28)
  have r1 := (ArrAt.new (w.alloc (.cells #[.int .i64 k, vd, va, vl, vh, vs, .int .i64 x] 24)) (.slice da dl dc) (.slice xa n xc)).alloc (.cells #[.slice fa fl fc, .slice ya m yc] 28)
  have r2 := ArrAt.new ((w.alloc (.cells #[.int .i64 k, vd, va, vl, vh, vs, .int .i64 x] 24)).alloc (.cells #[.slice da dl dc, .slice xa n xc] 28)) (.slice fa fl fc) (.slice ya m yc)
  simp only [World.size_alloc] at r1 r2
  have HO0 := hide r0
  have HA0 := hide r1
  have HA1 := hide r2
  clear r0 r1 r2 HB1 HB2
  go_enter Try.func6, Try.ntmps6
  go_wp2_with (first
    | (go_at_call 19; refine (HAL.out _ HBa.out).mono ?_; rintro e w2 ⟨hp, hb⟩; obtain ⟨rfl, _⟩ := hp.resolve_left (fun h => HNG.out h.2); have HB4 := hide ((HBa.out.alloc HBa.out.size (.cells #[.slice da dl dc, .slice xa n xc, .slice fa fl fc, .slice ya m yc] 28))); have HBb := hide (Below.on HB4.out hb); have HO2 := hide ((HO1.out.alloc (.cells #[.slice da dl dc, .slice xa n xc, .slice fa fl fc, .slice ya m yc] 28)).below hb); have HA2 := hide ((HAa.out.alloc (.cells #[.slice da dl dc, .slice xa n xc, .slice fa fl fc, .slice ya m yc] 28)).below hb); have HA3 := hide ((HAb.out.alloc (.cells #[.slice da dl dc, .slice xa n xc, .slice fa fl fc, .slice ya m yc] 28)).below hb); clear hp hb o0 o1 o2 o3 o4 o5 o6 a0 a1 b0' b1'; obtain ⟨o0, o1, o2, o3, o4, o5, o6⟩ := HO2.out.cells; obtain ⟨⟨a0, a1⟩, _⟩ := HA2.out.cells; obtain ⟨⟨b0', b1'⟩, _⟩ := HA3.out.cells)
    | (go_at_call 23; refine (linear_yes _ _ HYL.out).mono ?_; rintro e w' ⟨rfl, hw'⟩; obtain rfl := hw'.symm)
    | (go_at_call 22; refine (alive2_any _).mono ?_; rintro e w1 ⟨rfl, hb⟩; have HBa := hide (Below.on HBW.out hb); have HO1 := hide (HO0.out.below hb); have HAa := hide (HA0.out.below hb); have HAb := hide (HA1.out.below hb); clear hb; obtain ⟨o0, o1, o2, o3, o4, o5, o6⟩ := HO1.out.cells; obtain ⟨⟨a0, a1⟩, _⟩ := HAa.out.cells; obtain ⟨⟨b0', b1'⟩, _⟩ := HAb.out.cells))
  go_ret
  exact ⟨rfl, HBb.out⟩

end Go.Proofs.Ytcidhbkdaleomaa.V
