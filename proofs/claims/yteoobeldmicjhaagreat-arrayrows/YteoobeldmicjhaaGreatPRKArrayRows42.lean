/-
  What Do makes of one array, kind by kind. What Do makes of two arrays, in what it makes go with sums of the first one. Contracts: array.Do of Take and of Put: just what is made. Mathematics of ArrayRows: taking rows and putting them go back and forth. Where rows can be taken they can be put back: the dimensions.
-/
import Derived.Test.YteoobeldmicjhaaGreatPRKArrayRows41
namespace Go.Proofs.YteoobeldmicjhaaGreat.V
set_option maxRecDepth 20000
open Go.RowKit

end Go.Proofs.YteoobeldmicjhaaGreat.V
namespace Go.Proofs.YteoobeldmicjhaaGreat.V
set_option maxRecDepth 20000
open Go.RowKit

/-- Two arrays, of which nothing but their dimensions and how many numbers they have is known. -/
def pairV (ds : List Int) (n : Nat) (gs : List Int) (m : Nat) (j : Nat) : ArrV := if j = 0 then ⟨none, 0, 0, ds, none, n, 0⟩ else ⟨none, 0, 0, gs, none, m, 0⟩
theorem two_congr (da : Option Addr) (dl dc : Nat) (ds : List Int) (xa : Option Addr) (n xc : Nat) (fa : Option Addr) (fl fc : Nat) (gs : List Int) (ya : Option Addr) (m yc : Nat) : ∀ j, j < 2 → (twoV2 da dl dc ds xa n xc fa fl fc gs ya m yc j).ds = (pairV ds n gs m j).ds ∧ (twoV2 da dl dc ds xa n xc fa fl fc gs ya m yc j).xl = (pairV ds n gs m j).xl := fun j hj => by
  have : j = 0 ∨ j = 1 := by omega
  rcases this with rfl | rfl
  · exact ⟨rfl, rfl⟩
  · exact ⟨rfl, rfl⟩
theorem pairV_parts {k : Int} {es ps lo hi st ds gs : List Int} {n m : Nat} (h : doE k es ps lo hi st 2 (pairV ds n gs m) = 0) : arrE ds n = 0 ∧ arrE gs m = 0 ∧ (shapeP k es ps lo hi st [ds, gs]).2 = 0 ∧ sizeE (shapeP k es ps lo hi st [ds, gs]).1 = 0 ∧ (dimsP k es ps lo hi st [ds, gs]).1 = (shapeP k es ps lo hi st [ds, gs]).1 := by
  obtain ⟨_, c2, c3⟩ := doE_ok h
  exact ⟨arrsE_ok 2 c2 0 (by omega), arrsE_ok 2 c2 1 (by omega), dimsP_parts c3⟩
theorem prod_nn : ∀ l : List Int, (∀ x ∈ l, 0 ≤ x) → 0 ≤ prod l
  | [], _ => by simp [prod]
  | a :: l, h => Int.mul_nonneg (h a (by simp)) (prod_nn l (fun x hx => h x (by simp [hx])))
theorem size_nn {ds : List Int} (h : sizeE ds = 0) : ∀ x ∈ ds, 0 ≤ x := fun x hx => ((sizeE_ok h).2.1 x hx).1
theorem nat_prod {l : List Int} (h : ∀ x ∈ l, 0 ≤ x) : ∃ t : Nat, prod l = (t : Int) := ⟨(prod l).toNat, by have := prod_nn l h; omega⟩
end Go.Proofs.YteoobeldmicjhaaGreat.V
namespace Go.Proofs.YteoobeldmicjhaaGreat.V
set_option maxRecDepth 20000
open Go.RowKit

theorem do_put2 (x : Int) (ea : Option Addr) (el ec : Nat) (es : List Int) (pa : Option Addr) (pl pc : Nat) (ps : List Int) (la : Option Addr) (ll lc : Nat) (lo : List Int) (ha : Option Addr) (hl hc : Nat) (hi : List Int) (ta : Option Addr) (tl tc : Nat) (st : List Int) (ds : List Int) (n : Nat) (fa : Option Addr) (fl fc : Nat) (gs : List Int) (ya : Option Addr) (m yc : Nat) (ys : List Int) (w : World)
    (he : Lst w ea el ec es) (hp : Lst w pa pl pc ps) (hlo : Lst w la ll lc lo) (hhi : Lst w ha hl hc hi) (hst : Lst w ta tl tc st) (b0 : el ≤ 1048576) (b1 : pl ≤ 1048576) (b2 : ll ≤ 1048576) (b3 : hl ≤ 1048576) (b4 : tl ≤ 1048576) (hf : Lst w fa fl fc gs) (hy : Ints w ya m ys) (hE : doE 19 es ps lo hi st 2 (pairV ds n gs m) = 0) : ∃ D long : Nat, es = [(D : Int)] ∧ ds.take gs.length = gs ∧ prod (ds.drop gs.length) = (long : Int) ∧ n = m * long ∧ arrE (es ++ ds.drop gs.length) (D * long) = 0 ∧ ∀ (W : World) (b off cap : Nat) (da : Option Addr) (dl dc : Nat) (xa : Option Addr) (xc : Nat) (xs : List Int), Below w.heap.size w W → W.cell? ⟨b, off, none⟩ = some (.slice da dl dc) → W.cell? ⟨b, off + 1, none⟩ = some (.slice xa n xc) → W.cell? ⟨b, off + 2, none⟩ = some (.slice fa fl fc) → W.cell? ⟨b, off + 3, none⟩ = some (.slice ya m yc) → Lst W da dl dc ds → Ints W xa n xs → n ≤ xc →
    Calls Tryz.prog 9 #[.agg #[.int .i64 19, .slice ea el ec, .slice pa pl pc, .slice la ll lc, .slice ha hl hc, .slice ta tl tc, .int .i64 x], .slice (some ⟨b, off, none⟩) 2 cap] W fun e W' => DoesTo W (es ++ ds.drop gs.length) (putL xs ys long (D * long) m) (D * long) e W' ∧ Below W.heap.size W W' := by
  obtain ⟨ha1, ha2, hs1, hs2, hs3⟩ := pairV_parts hE
  have hsh : shapeP 19 es ps lo hi st [ds, gs] = putP es ds gs := rfl
  rw [hsh] at hs1 hs2 hs3
  have hz1 := (arrE_ok ha1).1
  have hn := (arrE_ok ha1).2.1
  have hm := (arrE_ok ha2).2.1
  have hn6 := (arrE_ok ha1).2.2
  have hT : es.length = 1 ∧ ds.take gs.length = gs ∧ (putP es ds gs).1 = es ++ ds.drop gs.length := by
    unfold putP at hs1 ⊢
    by_cases c : es.length ≠ 1
    · rw [if_pos c] at hs1; exact absurd hs1 (by simp)
    rw [if_neg c] at hs1 ⊢
    by_cases c2 : ds.length < gs.length
    · rw [if_pos c2] at hs1; exact absurd hs1 (by simp)
    rw [if_neg c2] at hs1 ⊢
    by_cases c3 : ds.take gs.length = gs
    · rw [if_pos c3]; exact ⟨Decidable.not_not.1 c, c3, rfl⟩
    · rw [if_neg c3] at hs1; exact absurd hs1 (by simp)
  obtain ⟨hl1, htk, hq1⟩ := hT
  rw [hq1] at hs2 hs3
  obtain ⟨haL, hN⟩ := arrE_of hs2
  obtain ⟨e0, he0⟩ : ∃ e0, es = [e0] := by
    match es, hl1 with
    | [a], _ => exact ⟨a, rfl⟩
  have hpos0 : 0 ≤ e0 := size_nn hs2 e0 (by rw [he0]; simp)
  obtain ⟨D, hD⟩ := nat_of' hpos0
  obtain ⟨long, hlong⟩ := nat_prod (l := ds.drop gs.length) (fun x hx => size_nn hz1 x (List.mem_of_mem_drop hx))
  have en : n = m * long := by
    have h1 : prod ds = prod gs * prod (ds.drop gs.length) := by
      conv => lhs; rw [← List.take_append_drop gs.length ds, prod_append, htk]
    rw [h1, ← hm, hlong, ← Int.natCast_mul] at hn
    omega
  have eN : (prod (es ++ ds.drop gs.length)).toNat = D * long := by
    have : prod (es ++ ds.drop gs.length) = ((D * long : Nat) : Int) := by rw [prod_append, he0, hlong, hD]; simp [prod]
    rw [this]; omega
  have hN6 := (arrE_ok haL).2.2
  rw [eN] at haL hN hN6
  have hL0 : (es ++ ds.drop gs.length)[0]?.getD 0 = (D : Int) := by rw [he0, hD]; simp
  refine ⟨D, long, by rw [he0, hD], htk, hlong, en, haL, ?_⟩
  intro W b off cap da dl dc xa xc xs hW c0 c1 c2 c3 hd hx hxc
  refine Do_good 19 x ea el ec es pa pl pc ps la ll lc lo ha hl hc hi ta tl tc st (some ⟨b, off, none⟩) 2 cap (twoV2 da dl dc ds xa n xc fa fl fc gs ya m yc) (es ++ ds.drop gs.length) (D * long) (putL xs ys long (D * long) m) W (he.below hW) (hp.below hW) (hlo.below hW) (hhi.below hW) (hst.below hW) b0 b1 b2 b3 b4 (arrs_two c0 c1 c2 c3 hd (hf.below hW)) (by omega) ((doE_congr (two_congr _ _ _ _ _ _ _ _ _ _ _ _ _ _)).trans hE) hs3.symm hN (putL_length _ _ _ _ _) (fun y hy' => by
    simp only [putL, List.mem_map] at hy'
    obtain ⟨i, _, rfl⟩ := hy'
    exact wrap_bd _) ?_
  intro hpos W2 Z nz cz g hW2 hg hZ _ hrow
  refine work_put x (.slice ea el ec) (.slice pa pl pc) (.slice la ll lc) (.slice ha hl hc) (.slice ta tl tc) Z nz cz g (D * long) b off cap (.slice da dl dc) (.slice xa n xc) (.slice fa fl fc) (.slice ya m yc) _ W2 ((hW2.cell (p := ⟨b, off, none⟩) (lt_of_cell c0)).trans c0) ((hW2.cell (p := ⟨b, off + 1, none⟩) (lt_of_cell c1)).trans c1) ((hW2.cell (p := ⟨b, off + 2, none⟩) (lt_of_cell c2)).trans c2) ((hW2.cell (p := ⟨b, off + 3, none⟩) (lt_of_cell c3)).trans c3) hrow (fun W3 hW3 hrow3 => ?_)
  have hWW := hW.trans (hW2.mono hW.size)
  have h3 := hWW.trans (hW3.mono hWW.size)
  have g3 := hW2.trans (hW3.mono hW2.size)
  exact putRows_any g (D * long) m long D Z nz cz (es ++ ds.drop gs.length) xa n xc xs ya yc ys W3 (hZ.below hW3) (by rw [← hZ.1, he0]; simp) hL0 (hx.below g3) (hy.below h3) hxc rfl hpos en hN6 hn6 (fun h0 => off_new (W := W) hx h0 hg) (fun h0 => off_new (W := W) (hy.below hW) h0 hg) hrow3
end Go.Proofs.YteoobeldmicjhaaGreat.V
namespace Go.Proofs.YteoobeldmicjhaaGreat.V
set_option maxRecDepth 20000
open Go.RowKit

theorem sumN_split (f : Nat → Int) (r : Nat) : ∀ m, sumN f (m * r) = sumN (fun t => sumN (fun k => f (t * r + k)) r) m
  | 0 => by simp [sumN]
  | m + 1 => by
    have h : ∀ k, sumN f (m * r + k) = sumN f (m * r) + sumN (fun k => f (m * r + k)) k := fun k => by
      induction k with
      | zero => simp [sumN]
      | succ k ih => rw [← Nat.add_assoc]; simp only [sumN]; rw [ih]; omega
    rw [Nat.succ_mul, h r, sumN_split f r m]
    simp only [sumN]
theorem sumN_pick (c : Int) (x : Nat → Int) : ∀ n : Nat, sumN (fun r => if c = (r : Int) then x r else 0) n = if 0 ≤ c ∧ c < n then x c.toNat else 0
  | 0 => by rw [if_neg (by omega)]; rfl
  | n + 1 => by
    simp only [sumN]
    rw [sumN_pick c x n]
    by_cases h : c = (n : Int)
    · subst h
      rw [if_pos rfl, if_neg (by omega), if_pos (by omega)]
      simp
    · rw [if_neg h]
      by_cases h2 : 0 ≤ c ∧ c < n
      · rw [if_pos h2, if_pos (by omega)]; omega
      · rw [if_neg h2, if_neg (by omega)]; omega
theorem rows_back (xs ys us : List Int) (long D m : Nat) : innS (takeL xs ys long D (m * long)) us (m * long) = innS xs (putL us ys long (D * long) m) (D * long) := by
  rw [innS_sum, innS_sum]
  have h1 : IntKind.i64.wrap (sumN (fun j => xs[j]?.getD 0 * (putL us ys long (D * long) m)[j]?.getD 0) (D * long)) = IntKind.i64.wrap (sumN (fun j => xs[j]?.getD 0 * sumN (fun t => if ys[t]?.getD 0 = ((j / long : Nat) : Int) then us[t * long + j % long]?.getD 0 else 0) m) (D * long)) := by
    refine wrap_sum _ (fun j hj => ?_)
    rw [putL_at _ _ _ _ _ _ hj, wrap_mulr]
  rw [h1]
  congr 1
  rw [sumN_split, sumN_split]
  have h2 : ∀ r, r < D → ∀ k, k < long → xs[r * long + k]?.getD 0 * sumN (fun t => if ys[t]?.getD 0 = (((r * long + k) / long : Nat) : Int) then us[t * long + (r * long + k) % long]?.getD 0 else 0) m = sumN (fun t => if ys[t]?.getD 0 = (r : Int) then xs[r * long + k]?.getD 0 * us[t * long + k]?.getD 0 else 0) m := fun r hr k hk => by
    rw [row_div r k long hk, row_mod r k long hk, sumN_mull]
    refine sumN_ext _ (fun t _ => ?_)
    split <;> simp
  have h3 : sumN (fun r => sumN (fun k => xs[r * long + k]?.getD 0 * sumN (fun t => if ys[t]?.getD 0 = (((r * long + k) / long : Nat) : Int) then us[t * long + (r * long + k) % long]?.getD 0 else 0) m) long) D = sumN (fun r => sumN (fun k => sumN (fun t => if ys[t]?.getD 0 = (r : Int) then xs[r * long + k]?.getD 0 * us[t * long + k]?.getD 0 else 0) m) long) D :=
    sumN_ext _ (fun r hr => sumN_ext _ (fun k hk => h2 r hr k hk))
  rw [h3]
  have h4 : ∀ r : Nat, sumN (fun k => sumN (fun t => if ys[t]?.getD 0 = (r : Int) then xs[r * long + k]?.getD 0 * us[t * long + k]?.getD 0 else 0) m) long = sumN (fun t => sumN (fun k => if ys[t]?.getD 0 = (r : Int) then xs[r * long + k]?.getD 0 * us[t * long + k]?.getD 0 else 0) long) m := fun r => sumN_swap _ _ _
  rw [sumN_ext D (fun r _ => h4 r)]
  conv => rhs; rw [sumN_swap]
  refine sumN_ext _ (fun t ht => ?_)
  conv => rhs; rw [sumN_swap]
  refine sumN_ext _ (fun k hk => ?_)
  rw [sumN_pick (ys[t]?.getD 0) (fun r => xs[r * long + k]?.getD 0 * us[t * long + k]?.getD 0) D, takeL_at _ _ _ _ _ _ (row_lt ht hk), row_div t k long hk, row_mod t k long hk]
  split <;> simp
end Go.Proofs.YteoobeldmicjhaaGreat.V
namespace Go.Proofs.YteoobeldmicjhaaGreat.V
set_option maxRecDepth 20000
open Go.RowKit

theorem put_doE {ds gs : List Int} {n m NN D : Nat} (hE : doE 18 [] [] [] [] [] 2 (pairV ds n gs m) = 0) (hD : ds[0]?.getD 0 = (D : Int)) (hN : arrE (gs ++ ds.drop 1) NN = 0) :
    doE 19 [(D : Int)] [] [] [] [] 2 (pairV (gs ++ ds.drop 1) NN gs m) = 0 ∧ [(D : Int)] ++ (gs ++ ds.drop 1).drop gs.length = ds := by
  obtain ⟨ha1, ha2, hs1, _, _⟩ := pairV_parts hE
  have hsh : shapeP 18 [] [] [] [] [] [ds, gs] = takeP ds gs := rfl
  rw [hsh] at hs1
  have hl0 : ds.length ≠ 0 := by
    unfold takeP at hs1
    by_cases c : ds.length = 0
    · rw [if_pos c] at hs1; exact absurd hs1 (by simp)
    · exact c
  have hds : [(D : Int)] ++ (gs ++ ds.drop 1).drop gs.length = ds := by
    rw [List.drop_left]
    match ds, hl0 with
    | d :: r, _ =>
      simp only [List.getElem?_cons_zero, Option.getD_some] at hD
      rw [hD]; rfl
  refine ⟨?_, hds⟩
  have h1 : takesE 19 2 = 0 := by kernel_rfl
  have h2 : arrsE (pairV (gs ++ ds.drop 1) NN gs m) 2 = 0 := arrsE_all 2 (fun j hj => by
    match j, hj with
    | 0, _ => exact hN
    | 1, _ => exact ha2)
  have h3 : dimsOf 2 (pairV (gs ++ ds.drop 1) NN gs m) = [gs ++ ds.drop 1, gs] := rfl
  have h5 : shapeP 19 [(D : Int)] [] [] [] [] [gs ++ ds.drop 1, gs] = (ds, 0) := by
    have h4 : shapeP 19 [(D : Int)] [] [] [] [] [gs ++ ds.drop 1, gs] = putP [(D : Int)] (gs ++ ds.drop 1) gs := rfl
    rw [h4]
    unfold putP
    rw [if_neg (by simp), if_neg (by simp), if_pos (by simp), hds]
  have h6 : sizesE [gs ++ ds.drop 1, gs] = 0 := sizesE_all _ (fun t ht => by
    match t, ht with
    | 0, _ => exact (arrE_ok hN).1
    | 1, _ => exact (arrE_ok ha2).1)
  unfold doE
  rw [if_neg (by rw [h1]; simp), if_neg (by rw [h2]; simp), h3]
  unfold dimsP
  rw [if_neg (by simp [h1]), if_neg (by rw [h6]; simp), h5, if_neg (by simp), if_neg (by rw [(arrE_ok ha1).1]; simp)]
end Go.Proofs.YteoobeldmicjhaaGreat.V
