/-
  Contracts: array.Do of Take and of Put: just what is made.
-/
import Derived.Test.YtmnfhedlplhlhaaGreatGLinMath
namespace Go.Proofs.YtmnfhedlplhlhaaGreat.V
set_option maxRecDepth 20000
open Go.RowKit

theorem do_take2 (x : Int) (ea : Option Addr) (el ec : Nat) (es : List Int) (pa : Option Addr) (pl pc : Nat) (ps : List Int) (la : Option Addr) (ll lc : Nat) (lo : List Int) (ha : Option Addr) (hl hc : Nat) (hi : List Int) (ta : Option Addr) (tl tc : Nat) (st : List Int) (ds : List Int) (n : Nat) (fa : Option Addr) (fl fc : Nat) (gs : List Int) (ya : Option Addr) (m yc : Nat) (ys : List Int) (w : World)
    (he : Lst w ea el ec es) (hp : Lst w pa pl pc ps) (hlo : Lst w la ll lc lo) (hhi : Lst w ha hl hc hi) (hst : Lst w ta tl tc st) (b0 : el ≤ 1048576) (b1 : pl ≤ 1048576) (b2 : ll ≤ 1048576) (b3 : hl ≤ 1048576) (b4 : tl ≤ 1048576) (hf : Lst w fa fl fc gs) (hy : Ints w ya m ys) (hE : doE 18 es ps lo hi st 2 (pairV ds n gs m) = 0) : ∃ D long : Nat, ds.length ≠ 0 ∧ ds[0]?.getD 0 = (D : Int) ∧ prod (ds.drop 1) = (long : Int) ∧ n = D * long ∧ arrE (gs ++ ds.drop 1) (m * long) = 0 ∧ ∀ (W : World) (b off cap : Nat) (da : Option Addr) (dl dc : Nat) (xa : Option Addr) (xc : Nat) (xs : List Int), Below w.heap.size w W → W.cell? ⟨b, off, none⟩ = some (.slice da dl dc) → W.cell? ⟨b, off + 1, none⟩ = some (.slice xa n xc) → W.cell? ⟨b, off + 2, none⟩ = some (.slice fa fl fc) → W.cell? ⟨b, off + 3, none⟩ = some (.slice ya m yc) → Lst W da dl dc ds → Ints W xa n xs → n ≤ xc →
    Calls Tryz.prog 7 #[.agg #[.int .i64 18, .slice ea el ec, .slice pa pl pc, .slice la ll lc, .slice ha hl hc, .slice ta tl tc, .int .i64 x], .slice (some ⟨b, off, none⟩) 2 cap] W fun e W' => DoesTo W (gs ++ ds.drop 1) (takeL xs ys long D (m * long)) (m * long) e W' ∧ Below W.heap.size W W' := by
  obtain ⟨ha1, ha2, hs1, hs2, hs3⟩ := pairV_parts hE
  have hsh : shapeP 18 es ps lo hi st [ds, gs] = takeP ds gs := rfl
  rw [hsh] at hs1 hs2 hs3
  have hz1 := (arrE_ok ha1).1
  have hz2 := (arrE_ok ha2).1
  have hn := (arrE_ok ha1).2.1
  have hm := (arrE_ok ha2).2.1
  have hn6 := (arrE_ok ha1).2.2
  have hT : ds.length ≠ 0 ∧ (takeP ds gs).1 = gs ++ ds.drop 1 := by
    unfold takeP at hs1 ⊢
    by_cases c : ds.length = 0
    · rw [if_pos c] at hs1; exact absurd hs1 (by simp)
    · rw [if_neg c]; exact ⟨c, rfl⟩
  obtain ⟨hl0, hq1⟩ := hT
  rw [hq1] at hs2 hs3
  obtain ⟨haL, hN⟩ := arrE_of hs2
  obtain ⟨D, hD⟩ := nat_of' (size_nn hz1 _ (mem_getD ds 0 (by omega)))
  obtain ⟨long, hlong⟩ := nat_prod (l := ds.drop 1) (fun x hx => size_nn hz1 x (List.mem_of_mem_drop hx))
  have en : n = D * long := by
    have := prod_drop ds 0 (by omega)
    rw [List.drop_zero, hD, Nat.zero_add, hlong, ← Int.natCast_mul] at this
    omega
  have eN : (prod (gs ++ ds.drop 1)).toNat = m * long := by
    have : prod (gs ++ ds.drop 1) = ((m * long : Nat) : Int) := by rw [prod_append, ← hm, hlong, ← Int.natCast_mul]
    rw [this]; omega
  have hN6 := (arrE_ok haL).2.2
  rw [eN] at haL hN hN6
  refine ⟨D, long, hl0, hD, hlong, en, haL, ?_⟩
  intro W b off cap da dl dc xa xc xs hW c0 c1 c2 c3 hd hx hxc
  refine Do_good 18 x ea el ec es pa pl pc ps la ll lc lo ha hl hc hi ta tl tc st (some ⟨b, off, none⟩) 2 cap (twoV2 da dl dc ds xa n xc fa fl fc gs ya m yc) (gs ++ ds.drop 1) (m * long) (takeL xs ys long D (m * long)) W (he.below hW) (hp.below hW) (hlo.below hW) (hhi.below hW) (hst.below hW) b0 b1 b2 b3 b4 (arrs_two c0 c1 c2 c3 hd (hf.below hW)) (by omega) ((doE_congr (two_congr _ _ _ _ _ _ _ _ _ _ _ _ _ _)).trans hE) hs3.symm hN (takeL_length _ _ _ _ _) (fun y hy' => by
    simp only [takeL, List.mem_map] at hy'
    obtain ⟨i, _, rfl⟩ := hy'
    split
    · exact bnd_at hx.2.2.1 _
    · omega) ?_
  intro hpos W2 Z nz cz g hW2 hg _ _ hrow
  have hm0 := (pos_of_lt_mul hpos).1
  have hbk := lt_of_cell c0
  refine work_take x (.slice ea el ec) (.slice pa pl pc) (.slice la ll lc) (.slice ha hl hc) (.slice ta tl tc) Z nz cz g (m * long) b off cap (.slice da dl dc) (.slice xa n xc) (.slice fa fl fc) (.slice ya m yc) _ W2 ((hW2.cell (p := ⟨b, off, none⟩) (lt_of_cell c0)).trans c0) ((hW2.cell (p := ⟨b, off + 1, none⟩) (lt_of_cell c1)).trans c1) ((hW2.cell (p := ⟨b, off + 2, none⟩) (lt_of_cell c2)).trans c2) ((hW2.cell (p := ⟨b, off + 3, none⟩) (lt_of_cell c3)).trans c3) hrow (fun W3 hW3 hrow3 => ?_)
  have hWW := hW.trans (hW2.mono hW.size)
  have h3 := hWW.trans (hW3.mono hWW.size)
  have g3 := hW2.trans (hW3.mono hW2.size)
  exact takeRows_any g (m * long) m long D da dl dc ds xa n xc xs ya yc ys W3 (hd.1.below g3) (by rw [← hd.1.1]; omega) hD (hx.below g3) (hy.below h3) hxc rfl hpos en hN6 hn6 (off_new (W := W) hd.1 (by rw [← hd.1.1]; omega) hg) (fun h0 => off_new (W := W) hx h0 hg) (off_new (W := W) (hy.below hW) hm0 hg) hrow3

theorem do_put2 (x : Int) (ea : Option Addr) (el ec : Nat) (es : List Int) (pa : Option Addr) (pl pc : Nat) (ps : List Int) (la : Option Addr) (ll lc : Nat) (lo : List Int) (ha : Option Addr) (hl hc : Nat) (hi : List Int) (ta : Option Addr) (tl tc : Nat) (st : List Int) (ds : List Int) (n : Nat) (fa : Option Addr) (fl fc : Nat) (gs : List Int) (ya : Option Addr) (m yc : Nat) (ys : List Int) (w : World)
    (he : Lst w ea el ec es) (hp : Lst w pa pl pc ps) (hlo : Lst w la ll lc lo) (hhi : Lst w ha hl hc hi) (hst : Lst w ta tl tc st) (b0 : el ≤ 1048576) (b1 : pl ≤ 1048576) (b2 : ll ≤ 1048576) (b3 : hl ≤ 1048576) (b4 : tl ≤ 1048576) (hf : Lst w fa fl fc gs) (hy : Ints w ya m ys) (hE : doE 19 es ps lo hi st 2 (pairV ds n gs m) = 0) : ∃ D long : Nat, es = [(D : Int)] ∧ ds.take gs.length = gs ∧ prod (ds.drop gs.length) = (long : Int) ∧ n = m * long ∧ arrE (es ++ ds.drop gs.length) (D * long) = 0 ∧ ∀ (W : World) (b off cap : Nat) (da : Option Addr) (dl dc : Nat) (xa : Option Addr) (xc : Nat) (xs : List Int), Below w.heap.size w W → W.cell? ⟨b, off, none⟩ = some (.slice da dl dc) → W.cell? ⟨b, off + 1, none⟩ = some (.slice xa n xc) → W.cell? ⟨b, off + 2, none⟩ = some (.slice fa fl fc) → W.cell? ⟨b, off + 3, none⟩ = some (.slice ya m yc) → Lst W da dl dc ds → Ints W xa n xs → n ≤ xc →
    Calls Tryz.prog 7 #[.agg #[.int .i64 19, .slice ea el ec, .slice pa pl pc, .slice la ll lc, .slice ha hl hc, .slice ta tl tc, .int .i64 x], .slice (some ⟨b, off, none⟩) 2 cap] W fun e W' => DoesTo W (es ++ ds.drop gs.length) (putL xs ys long (D * long) m) (D * long) e W' ∧ Below W.heap.size W W' := by
  obtain ⟨ha1, ha2, hs1, hs2, hs3⟩ := pairV_parts hE
  have hsh : shapeP 19 es ps lo hi st [ds, gs] = putP es ds gs := rfl
  rw [hsh] at hs1 hs2 hs3
  have hz1 := (arrE_ok ha1).1
  have hn := (arrE_ok ha1).2.1
  have hm := (arrE_ok ha2).2.1
  have hn6 := (arrE_ok ha1).2.2
  have hT : es.length = 1 ∧ ds.take gs.length = gs ∧ (putP es ds gs).1 = es ++ ds.drop gs.length := by
    unfold putP at hs1 ⊢
    by_cases c : es.length ≠ 1
    · rw [if_pos c] at hs1; exact absurd hs1 (by simp)
    rw [if_neg c] at hs1 ⊢
    by_cases c2 : ds.length < gs.length
    · rw [if_pos c2] at hs1; exact absurd hs1 (by simp)
    rw [if_neg c2] at hs1 ⊢
    by_cases c3 : ds.take gs.length = gs
    · rw [if_pos c3]; exact ⟨Decidable.not_not.1 c, c3, rfl⟩
    · rw [if_neg c3] at hs1; exact absurd hs1 (by simp)
  obtain ⟨hl1, htk, hq1⟩ := hT
  rw [hq1] at hs2 hs3
  obtain ⟨haL, hN⟩ := arrE_of hs2
  obtain ⟨e0, he0⟩ : ∃ e0, es = [e0] := by
    match es, hl1 with
    | [a], _ => exact ⟨a, rfl⟩
  have hpos0 : 0 ≤ e0 := size_nn hs2 e0 (by rw [he0]; simp)
  obtain ⟨D, hD⟩ := nat_of' hpos0
  obtain ⟨long, hlong⟩ := nat_prod (l := ds.drop gs.length) (fun x hx => size_nn hz1 x (List.mem_of_mem_drop hx))
  have en : n = m * long := by
    have h1 : prod ds = prod gs * prod (ds.drop gs.length) := by
      conv => lhs; rw [← List.take_append_drop gs.length ds, prod_append, htk]
    rw [h1, ← hm, hlong, ← Int.natCast_mul] at hn
    omega
  have eN : (prod (es ++ ds.drop gs.length)).toNat = D * long := by
    have : prod (es ++ ds.drop gs.length) = ((D * long : Nat) : Int) := by rw [prod_append, he0, hlong, hD]; simp [prod]
    rw [this]; omega
  have hN6 := (arrE_ok haL).2.2
  rw [eN] at haL hN hN6
  have hL0 : (es ++ ds.drop gs.length)[0]?.getD 0 = (D : Int) := by rw [he0, hD]; simp
  refine ⟨D, long, by rw [he0, hD], htk, hlong, en, haL, ?_⟩
  intro W b off cap da dl dc xa xc xs hW c0 c1 c2 c3 hd hx hxc
  refine Do_good 19 x ea el ec es pa pl pc ps la ll lc lo ha hl hc hi ta tl tc st (some ⟨b, off, none⟩) 2 cap (twoV2 da dl dc ds xa n xc fa fl fc gs ya m yc) (es ++ ds.drop gs.length) (D * long) (putL xs ys long (D * long) m) W (he.below hW) (hp.below hW) (hlo.below hW) (hhi.below hW) (hst.below hW) b0 b1 b2 b3 b4 (arrs_two c0 c1 c2 c3 hd (hf.below hW)) (by omega) ((doE_congr (two_congr _ _ _ _ _ _ _ _ _ _ _ _ _ _)).trans hE) hs3.symm hN (putL_length _ _ _ _ _) (fun y hy' => by
    simp only [putL, List.mem_map] at hy'
    obtain ⟨i, _, rfl⟩ := hy'
    exact wrap_bd _) ?_
  intro hpos W2 Z nz cz g hW2 hg hZ _ hrow
  refine work_put x (.slice ea el ec) (.slice pa pl pc) (.slice la ll lc) (.slice ha hl hc) (.slice ta tl tc) Z nz cz g (D * long) b off cap (.slice da dl dc) (.slice xa n xc) (.slice fa fl fc) (.slice ya m yc) _ W2 ((hW2.cell (p := ⟨b, off, none⟩) (lt_of_cell c0)).trans c0) ((hW2.cell (p := ⟨b, off + 1, none⟩) (lt_of_cell c1)).trans c1) ((hW2.cell (p := ⟨b, off + 2, none⟩) (lt_of_cell c2)).trans c2) ((hW2.cell (p := ⟨b, off + 3, none⟩) (lt_of_cell c3)).trans c3) hrow (fun W3 hW3 hrow3 => ?_)
  have hWW := hW.trans (hW2.mono hW.size)
  have h3 := hWW.trans (hW3.mono hWW.size)
  have g3 := hW2.trans (hW3.mono hW2.size)
  exact putRows_any g (D * long) m long D Z nz cz (es ++ ds.drop gs.length) xa n xc xs ya yc ys W3 (hZ.below hW3) (by rw [← hZ.1, he0]; simp) hL0 (hx.below g3) (hy.below h3) hxc rfl hpos en hN6 hn6 (fun h0 => off_new (W := W) hx h0 hg) (fun h0 => off_new (W := W) (hy.below hW) h0 hg) hrow3
end Go.Proofs.YtmnfhedlplhlhaaGreat.V

/-
  Mathematics of ArrayRows: taking rows and putting them go back and forth.
-/
namespace Go.Proofs.YtmnfhedlplhlhaaGreat.V
set_option maxRecDepth 20000
open Go.RowKit

theorem sumN_split (f : Nat → Int) (r : Nat) : ∀ m, sumN f (m * r) = sumN (fun t => sumN (fun k => f (t * r + k)) r) m
  | 0 => by simp [sumN]
  | m + 1 => by
    have h : ∀ k, sumN f (m * r + k) = sumN f (m * r) + sumN (fun k => f (m * r + k)) k := fun k => by
      induction k with
      | zero => simp [sumN]
      | succ k ih => rw [← Nat.add_assoc]; simp only [sumN]; rw [ih]; omega
    rw [Nat.succ_mul, h r, sumN_split f r m]
    simp only [sumN]
theorem sumN_pick (c : Int) (x : Nat → Int) : ∀ n : Nat, sumN (fun r => if c = (r : Int) then x r else 0) n = if 0 ≤ c ∧ c < n then x c.toNat else 0
  | 0 => by rw [if_neg (by omega)]; rfl
  | n + 1 => by
    simp only [sumN]
    rw [sumN_pick c x n]
    by_cases h : c = (n : Int)
    · subst h
      rw [if_pos rfl, if_neg (by omega), if_pos (by omega)]
      simp
    · rw [if_neg h]
      by_cases h2 : 0 ≤ c ∧ c < n
      · rw [if_pos h2, if_pos (by omega)]; omega
      · rw [if_neg h2, if_neg (by omega)]; omega
theorem rows_back (xs ys us : List Int) (long D m : Nat) : innS (takeL xs ys long D (m * long)) us (m * long) = innS xs (putL us ys long (D * long) m) (D * long) := by
  rw [innS_sum, innS_sum]
  have h1 : IntKind.i64.wrap (sumN (fun j => xs[j]?.getD 0 * (putL us ys long (D * long) m)[j]?.getD 0) (D * long)) = IntKind.i64.wrap (sumN (fun j => xs[j]?.getD 0 * sumN (fun t => if ys[t]?.getD 0 = ((j / long : Nat) : Int) then us[t * long + j % long]?.getD 0 else 0) m) (D * long)) := by
    refine wrap_sum _ (fun j hj => ?_)
    rw [putL_at _ _ _ _ _ _ hj, wrap_mulr]
  rw [h1]
  congr 1
  rw [sumN_split, sumN_split]
  have h2 : ∀ r, r < D → ∀ k, k < long → xs[r * long + k]?.getD 0 * sumN (fun t => if ys[t]?.getD 0 = (((r * long + k) / long : Nat) : Int) then us[t * long + (r * long + k) % long]?.getD 0 else 0) m = sumN (fun t => if ys[t]?.getD 0 = (r : Int) then xs[r * long + k]?.getD 0 * us[t * long + k]?.getD 0 else 0) m := fun r hr k hk => by
    rw [row_div r k long hk, row_mod r k long hk, sumN_mull]
    refine sumN_ext _ (fun t _ => ?_)
    split <;> simp
  have h3 : sumN (fun r => sumN (fun k => xs[r * long + k]?.getD 0 * sumN (fun t => if ys[t]?.getD 0 = (((r * long + k) / long : Nat) : Int) then us[t * long + (r * long + k) % long]?.getD 0 else 0) m) long) D = sumN (fun r => sumN (fun k => sumN (fun t => if ys[t]?.getD 0 = (r : Int) then xs[r * long + k]?.getD 0 * us[t * long + k]?.getD 0 else 0) m) long) D :=
    sumN_ext _ (fun r hr => sumN_ext _ (fun k hk => h2 r hr k hk))
  rw [h3]
  have h4 : ∀ r : Nat, sumN (fun k => sumN (fun t => if ys[t]?.getD 0 = (r : Int) then xs[r * long + k]?.getD 0 * us[t * long + k]?.getD 0 else 0) m) long = sumN (fun t => sumN (fun k => if ys[t]?.getD 0 = (r : Int) then xs[r * long + k]?.getD 0 * us[t * long + k]?.getD 0 else 0) long) m := fun r => sumN_swap _ _ _
  rw [sumN_ext D (fun r _ => h4 r)]
  conv => rhs; rw [sumN_swap]
  refine sumN_ext _ (fun t ht => ?_)
  conv => rhs; rw [sumN_swap]
  refine sumN_ext _ (fun k hk => ?_)
  rw [sumN_pick (ys[t]?.getD 0) (fun r => xs[r * long + k]?.getD 0 * us[t * long + k]?.getD 0) D, takeL_at _ _ _ _ _ _ (row_lt ht hk), row_div t k long hk, row_mod t k long hk]
  split <;> simp
end Go.Proofs.YtmnfhedlplhlhaaGreat.V

/-
  Where rows can be taken they can be put back: the dimensions.
-/
namespace Go.Proofs.YtmnfhedlplhlhaaGreat.V
set_option maxRecDepth 20000
open Go.RowKit

theorem put_doE {ds gs : List Int} {n m NN D : Nat} (hE : doE 18 [] [] [] [] [] 2 (pairV ds n gs m) = 0) (hD : ds[0]?.getD 0 = (D : Int)) (hN : arrE (gs ++ ds.drop 1) NN = 0) :
    doE 19 [(D : Int)] [] [] [] [] 2 (pairV (gs ++ ds.drop 1) NN gs m) = 0 ∧ [(D : Int)] ++ (gs ++ ds.drop 1).drop gs.length = ds := by
  obtain ⟨ha1, ha2, hs1, _, _⟩ := pairV_parts hE
  have hsh : shapeP 18 [] [] [] [] [] [ds, gs] = takeP ds gs := rfl
  rw [hsh] at hs1
  have hl0 : ds.length ≠ 0 := by
    unfold takeP at hs1
    by_cases c : ds.length = 0
    · rw [if_pos c] at hs1; exact absurd hs1 (by simp)
    · exact c
  have hds : [(D : Int)] ++ (gs ++ ds.drop 1).drop gs.length = ds := by
    rw [List.drop_left]
    match ds, hl0 with
    | d :: r, _ =>
      simp only [List.getElem?_cons_zero, Option.getD_some] at hD
      rw [hD]; rfl
  refine ⟨?_, hds⟩
  have h1 : takesE 19 2 = 0 := by kernel_rfl
  have h2 : arrsE (pairV (gs ++ ds.drop 1) NN gs m) 2 = 0 := arrsE_all 2 (fun j hj => by
    match j, hj with
    | 0, _ => exact hN
    | 1, _ => exact ha2)
  have h3 : dimsOf 2 (pairV (gs ++ ds.drop 1) NN gs m) = [gs ++ ds.drop 1, gs] := rfl
  have h5 : shapeP 19 [(D : Int)] [] [] [] [] [gs ++ ds.drop 1, gs] = (ds, 0) := by
    have h4 : shapeP 19 [(D : Int)] [] [] [] [] [gs ++ ds.drop 1, gs] = putP [(D : Int)] (gs ++ ds.drop 1) gs := rfl
    rw [h4]
    unfold putP
    rw [if_neg (by simp), if_neg (by simp), if_pos (by simp), hds]
  have h6 : sizesE [gs ++ ds.drop 1, gs] = 0 := sizesE_all _ (fun t ht => by
    match t, ht with
    | 0, _ => exact (arrE_ok hN).1
    | 1, _ => exact (arrE_ok ha2).1)
  unfold doE
  rw [if_neg (by rw [h1]; simp), if_neg (by rw [h2]; simp), h3]
  unfold dimsP
  rw [if_neg (by simp [h1]), if_neg (by rw [h6]; simp), h5, if_neg (by simp), if_neg (by rw [(arrE_ok ha1).1]; simp)]
end Go.Proofs.YtmnfhedlplhlhaaGreat.V

/-
  Contracts: array.Do, with a list of dimensions that can be handed on (a list that is nil has no room).
-/
namespace Go.Proofs.YtmnfhedlplhlhaaGreat.V
set_option maxRecDepth 20000
open Go.RowKit

def OutPL (e : Ending) (w' : World) (p : List Int × Int) : Prop := ∃ X n c, e = .returned (.tuple #[.slice X n c, .int .i64 p.2]) ∧ Ints w' X n p.1 ∧ (n ≤ c ∧ (X = none → c = 0))
theorem outPL_none (w' : World) (E : Int) : OutPL (.returned (.tuple #[.slice none 0 0, .int .i64 E])) w' ([], E) := ⟨none, 0, 0, rfl, ⟨rfl, by omega, by simp, .inl rfl⟩, Nat.le_refl _, fun _ => rfl⟩
theorem outPL_lst {w : World} {X : Option Addr} {n c : Nat} {xs : List Int} (h : Lst w X n c xs) (E : Int) : OutPL (.returned (.tuple #[.slice X n c, .int .i64 E])) w (xs, E) := ⟨X, n, c, rfl, h.1, h.2⟩
theorem outPL_new {w w' : World} {v : Value} {xs : List Int} (h : NewAt w w' v xs) (E : Int) : OutPL (.returned (.tuple #[v, .int .i64 E])) w' (xs, E) := by
  obtain ⟨X, n, c, rfl, hl, _⟩ := h
  exact ⟨X, n, c, rfl, hl.1, hl.2⟩

set_option maxRecDepth 100000 in
set_option maxHeartbeats 1000000 in
theorem takeDims_L (a : Option Addr) (len cap : Nat) (xs : List Int) (a' : Option Addr) (len' cap' : Nat) (ys : List Int) (w : World) (h : Lst w a len cap xs) (h' : Lst w a' len' cap' ys) (h6 : len ≤ 6) (h6' : len' ≤ 6) :
    Calls Tryz.prog 60 #[.slice a len cap, .slice a' len' cap'] w fun e w' => OutPL e w' (takeP xs ys) ∧ Below w.heap.size w w' := by
  have H := hide h
  have H' := hide h'
  have hcap := h.2.1
  have HN := hide h.1.1
  clear h h'
  by_cases c : len = 0
  · have hp : takeP xs ys = ([], 6) := by unfold takeP; rw [if_pos (by rw [HN.out]; exact c)]
    rw [hp]
    have q : ((len : Int) == 0) = true := by simp [c]
    clear hp c
    go_enter Tryz.func60, Tryz.ntmps60
    go_wp2
    go_ret2
    exact ⟨outPL_none _ _, Below.refl _ _⟩
  · have hp : takeP xs ys = (ys ++ xs.drop 1, 0) := by unfold takeP; rw [if_neg (by rw [HN.out]; exact c)]
    rw [hp]
    have q : ((len : Int) == 0) = false := by simp; omega
    obtain ⟨b, off, rfl, hb, hc⟩ := H.out.1.at (by omega)
    have hl1 : 1 ≤ len := by omega
    clear hp c hc
    have HF : Hid (∀ X n d, Lst w X n d (xs.drop 1) → n ≤ 6 → ∀ w1, w1 = w.alloc (.cells #[.slice a' len' cap', .slice X n d] 22) → Calls Tryz.prog 89 #[.slice (some ⟨w.heap.size, 0, none⟩) 2 2] w1 fun e w' => GivesL w e w' (ys ++ xs.drop 1) ∧ Below w.heap.size w w') := by
      intro X n d hl hn w1 hw1
      subst hw1
      have e : [ys, xs.drop 1].flatten = ys ++ xs.drop 1 := by simp
      refine (chain_any _ _ _ [ys, xs.drop 1] _ (lsts_two H'.out hl _) (by rw [e, List.length_append, H'.out.1.1, hl.1.1]; omega) (by rw [e]; exact bd_append H'.out.1.2.2.1 hl.1.2.2.1)).mono ?_
      rintro e1 w2 ⟨⟨v, rfl, hv⟩, hb2⟩
      rw [e] at hv
      exact ⟨⟨v, rfl, newAt_mono hv (by simp)⟩, Below.on ((Below.refl _ _).alloc (Nat.le_refl _) _) hb2⟩
    by_cases cc : cap = 1
    · subst cc
      have e1 : xs.drop 1 = [] := List.drop_eq_nil_of_le (by rw [HN.out]; omega)
      have HL : Hid (Lst w (some ⟨b, off, none⟩) 0 0 (xs.drop 1)) := by
        rw [e1]; exact lst_empty w _ _
      go_enter Tryz.func60, Tryz.ntmps60
      go_wp2_with (go_at_call 89; refine (HF.out _ _ _ HL.out (by omega) _ (by rfl)).mono ?_; rintro e w1 ⟨⟨v, rfl, hv⟩, hb1⟩; have HV := hide hv; have HB1 := hide hb1; clear hv hb1)
      go_ret2
      exact ⟨outPL_new HV.out 0, HB1.out⟩
    · have HL := hide (lst_drop H.out 1 (by omega))
      go_enter Tryz.func60, Tryz.ntmps60
      go_wp2_with (go_at_call 89; refine (HF.out _ _ _ HL.out (by omega) _ (by rfl)).mono ?_; rintro e w1 ⟨⟨v, rfl, hv⟩, hb1⟩; have HV := hide hv; have HB1 := hide hb1; clear hv hb1)
      go_ret2
      exact ⟨outPL_new HV.out 0, HB1.out⟩

set_option maxRecDepth 100000 in
set_option maxHeartbeats 2000000 in
theorem shape_18L (x : Int) (ea : Option Addr) (el ec : Nat) (es : List Int) (pa : Option Addr) (pl pc : Nat) (ps : List Int) (la : Option Addr) (ll lc : Nat) (lo : List Int) (ha : Option Addr) (hl hc : Nat) (hi : List Int) (ta : Option Addr) (tl tc : Nat) (st : List Int) (A : Option Addr) (len cap : Nat) (xss : List (List Int)) (w : World)
    (he : Lst w ea el ec es) (hp : Lst w pa pl pc ps) (hlo : Lst w la ll lc lo) (hhi : Lst w ha hl hc hi) (hst : Lst w ta tl tc st) (h : Lsts w A len xss) (hcap : len ≤ cap) (hz : ∀ d ∈ xss, sizeE d = 0) (hn : len = 2) (hlen : len ≤ 1048576) (b0 : el ≤ 1048576) (b1 : pl ≤ 1048576) (b2 : ll ≤ 1048576) (b3 : hl ≤ 1048576) (b4 : tl ≤ 1048576) :
    Calls Tryz.prog 28 #[.agg #[.int .i64 18, .slice ea el ec, .slice pa pl pc, .slice la ll lc, .slice ha hl hc, .slice ta tl tc, .int .i64 x], .slice A len cap] w fun e w' => OutPL e w' (takeP (xss[0]?.getD []) (xss[1]?.getD [])) ∧ Below w.heap.size w w' := by
  have zz := And.intro hcap (And.intro hlen (And.intro hn (And.intro b0 (And.intro b1 (And.intro b2 (And.intro b3 b4))))))
  clear zz
  have HE := hide he
  have HP := hide hp
  have HLO := hide hlo
  have HHI := hide hhi
  have HST := hide hst
  have H := hide h
  have HN := hide h.1
  have HZ := hide hz
  have HB1 := hide ((Below.refl w.heap.size w).alloc (Nat.le_refl _) (.cells #[.int .i64 18, .slice ea el ec, .slice pa pl pc, .slice la ll lc, .slice ha hl hc, .slice ta tl tc, .int .i64 x] 24))
  have HOP := hide (OpAt.new w 18 (.slice ea el ec) (.slice pa pl pc) (.slice la ll lc) (.slice ha hl hc) (.slice ta tl tc) x)
  obtain ⟨o0, o1, o2, o3, o4, o5, o6⟩ := HOP.out.cells
  obtain ⟨b, off, rfl, hc⟩ := h.at (by omega)
  obtain ⟨X0, m0, c0, hc0, hl0⟩ := hc 0 (by omega)
  have hc0' : w.cell? ⟨b, off, none⟩ = some (.slice X0 m0 c0) := hc0
  obtain ⟨ds, hds⟩ : ∃ ds, ds = xss[0]?.getD [] := ⟨_, rfl⟩
  rw [← hds] at hl0 ⊢
  have HL0 := hide hl0
  have HC0 := hide hc0'
  have hzd : sizeE ds = 0 := by rw [hds]; exact hz _ (mem_getDL xss 0 (by rw [h.1]; omega))
  have HZD := hide hzd
  have h06 : m0 ≤ 6 := by have := (sizeE_ok hzd).1; have := hl0.1.1; omega
  have HD1 := hide (HL0.out.below HB1.out)
  have q0 := (HB1.out.cell (p := ⟨b, off, none⟩) (lt_of_cell hc0')).trans hc0'
  have i0 : (0 : Int) < (len : Int) := by omega
  obtain ⟨X1, m1, c1, hc1, hl1⟩ := hc 1 (by omega)
  obtain ⟨ds1, hds1⟩ : ∃ ds1, ds1 = xss[1]?.getD [] := ⟨_, rfl⟩
  rw [← hds1] at hl1 ⊢
  have HL1 := hide hl1
  have hzd1 : sizeE ds1 = 0 := by rw [hds1]; exact hz _ (mem_getDL xss 1 (by rw [h.1]; omega))
  have h16 : m1 ≤ 6 := by have := (sizeE_ok hzd1).1; have := hl1.1.1; omega
  have q1 := (HB1.out.cell (p := ⟨b, off + 1, none⟩) (lt_of_cell hc1)).trans hc1
  have i1 : (1 : Int) < (len : Int) := by omega
  clear h he hp hlo hhi hst hz hc hc0 hc0' hl0 hds hzd hc1 hl1 hds1 hzd1
  go_enter Tryz.func28, Tryz.ntmps28
  go_wp2_with fail
  go_region_with (go_at_call 60; refine (takeDims_L _ _ _ ds _ _ _ ds1 _ (HL0.out.below (HB1.out.drew)) (HL1.out.below (HB1.out.drew)) h06 h16).mono ?_; rintro e w1 ⟨⟨Z, nz, cz, rfl, hi1, hnc⟩, hb⟩; have HI1 := hide hi1; have HB2 := hide (Below.on (HB1.out.drew) hb); clear hi1 hb)
  all_goals go_wp2
  all_goals go_ret2
  all_goals exact ⟨⟨_, _, _, rfl, HI1.out, hnc⟩, HB2.out⟩

set_option maxRecDepth 100000 in
set_option maxHeartbeats 4000000 in
theorem Dims_L (k x : Int) (ea : Option Addr) (el ec : Nat) (es : List Int) (pa : Option Addr) (pl pc : Nat) (ps : List Int) (la : Option Addr) (ll lc : Nat) (lo : List Int) (ha : Option Addr) (hl hc : Nat) (hi : List Int) (ta : Option Addr) (tl tc : Nat) (st : List Int) (A : Option Addr) (len cap : Nat) (xss : List (List Int)) (w : World)
    (he : Lst w ea el ec es) (hp : Lst w pa pl pc ps) (hlo : Lst w la ll lc lo) (hhi : Lst w ha hl hc hi) (hst : Lst w ta tl tc st) (h : Lsts w A len xss) (hcap : len ≤ cap) (hlen : len ≤ 1048576) (hS : ∀ (W : World) (A : Option Addr) (cap : Nat), Below w.heap.size w W → Lsts W A len (xss) → len ≤ cap → Calls Tryz.prog 28 #[.agg #[.int .i64 k, .slice ea el ec, .slice pa pl pc, .slice la ll lc, .slice ha hl hc, .slice ta tl tc, .int .i64 x], .slice A len cap] W fun e w' => OutPL e w' (shapeP k es ps lo hi st (xss)) ∧ Below W.heap.size W w') :
    Calls Tryz.prog 17 #[.agg #[.int .i64 k, .slice ea el ec, .slice pa pl pc, .slice la ll lc, .slice ha hl hc, .slice ta tl tc, .int .i64 x], .slice A len cap] w fun e w' => OutPL e w' (dimsP k es ps lo hi st xss) ∧ Below w.heap.size w w' := by
  have hmx := h.2.1
  have H := hide h
  have HN := hide h.1
  have HE := hide he
  have HP := hide hp
  have HLO := hide hlo
  have HHI := hide hhi
  have HST := hide hst
  have HB1 := hide ((Below.refl w.heap.size w).alloc (Nat.le_refl _) (.cells #[.int .i64 k, .slice ea el ec, .slice pa pl pc, .slice la ll lc, .slice ha hl hc, .slice ta tl tc, .int .i64 x] 24))
  have HOP := hide (OpAt.new w k (.slice ea el ec) (.slice pa pl pc) (.slice la ll lc) (.slice ha hl hc) (.slice ta tl tc) x)
  obtain ⟨o0, o1, o2, o3, o4, o5, o6⟩ := HOP.out.cells
  have HDP := hide (show dimsP k es ps lo hi st xss = if takesE k xss.length ≠ 0 then ([], takesE k xss.length) else if sizesE xss ≠ 0 then ([], sizesE xss) else if (shapeP k es ps lo hi st xss).2 ≠ 0 then ([], (shapeP k es ps lo hi st xss).2) else if sizeE (shapeP k es ps lo hi st xss).1 ≠ 0 then ([], sizeE (shapeP k es ps lo hi st xss).1) else ((shapeP k es ps lo hi st xss).1, 0) from rfl)
  have HSH := hide hS
  clear h he hp hlo hhi hst hS
  by_cases c1 : takesE k len = 0
  case neg =>
    obtain ⟨T, hT⟩ : ∃ T, T = takesE k len := ⟨_, rfl⟩
    have hp : dimsP k es ps lo hi st xss = ([], T) := by rw [HDP.out, HN.out, if_pos c1, ← hT]
    rw [hp]
    have HT := hide hT
    have q : (T != 0) = true := by rw [hT]; simp [c1]
    clear hp c1 hT
    go_enter Tryz.func17, Tryz.ntmps17
    go_wp2_with (go_at_call 15; refine (takes_any _ _ _).mono ?_; rintro e w' ⟨rfl, hw'⟩; obtain rfl := hw'.symm; rw [← HT.out])
    go_ret2
    exact ⟨outPL_none _ _, HB1.out⟩
  have HC1 := hide c1
  clear c1
  go_enter Tryz.func17, Tryz.ntmps17
  go_wp2_with (go_at_call 15; refine (takes_any _ _ _).mono ?_; rintro e w' ⟨rfl, hw'⟩; obtain rfl := hw'.symm; rw [HC1.out])
  go_loopw [25] (fun i wr => ∃ j : Nat, j ≤ len ∧ i = .int .i64 j ∧ (∀ t, t < j → sizeE (xss[t]?.getD []) = 0) ∧ OpAt wr w.heap.size k (.slice ea el ec) (.slice pa pl pc) (.slice la ll lc) (.slice ha hl hc) (.slice ta tl tc) x ∧ Below w.heap.size w wr) (fun i _ => len - (intOf i).toNat)
  case atStart => exact ⟨0, Nat.zero_le _, rfl, fun t ht => by omega, HOP.out, HB1.out⟩
  case round =>
    obtain ⟨j, hj, rfl, hgood, ho, hB⟩ := hrel
    have HG := hide hgood
    have HO := hide ho
    have HB := hide hB
    clear hgood ho hB o0 o1 o2 o3 o4 o5 o6
    by_cases hlt : j < len
    · obtain ⟨b, off, rfl, hc⟩ := H.out.at (by omega)
      obtain ⟨X, m, c, hcj0, hlj⟩ := hc j hlt
      have hcj : wr.cell? ⟨b, off + j, none⟩ = some (.slice X m c) := (HB.out.cell (p := ⟨b, off + j, none⟩) (lt_of_cell hcj0)).trans hcj0
      have HLJ := hide hlj
      clear hlj hcj0 hc
      obtain ⟨T, hT⟩ : ∃ T, T = sizeE (xss[j]?.getD []) := ⟨_, rfl⟩
      have HT := hide hT
      by_cases c2 : T = 0
      · have HT0 : Hid (sizeE (xss[j]?.getD []) = 0) := hT.symm.trans c2
        clear hT c2 HT
        go_wp2_with (go_at_call 27; refine (size_any _ _ _ (xss[j]?.getD []) _ (HLJ.out.1.below HB.out)).mono ?_; rintro e w' ⟨rfl, hw'⟩; obtain rfl := hw'.symm; rw [HT0.out])
        go_roundw
        case rel =>
          refine ⟨j + 1, by omega, by go_num, fun t ht => ?_, HO.out, HB.out⟩
          by_cases e : t = j
          · rw [e]; exact HT0.out
          · exact HG.out t (by omega)
        case measure => simp [intOf]; omega
      · have q : (T != 0) = true := by simp [c2]
        have hsz : sizesE xss = T := by
          rw [hT]
          exact sizesE_at xss j HG.out (by rw [HN.out]; exact hlt) (by rw [← hT]; exact c2)
        have hp : dimsP k es ps lo hi st xss = ([], T) := by rw [HDP.out, HN.out, if_neg (by rw [HC1.out]; simp), hsz, if_pos c2]
        have HPP := hide hp
        clear hp hsz hT c2
        go_wp2_with (go_at_call 27; refine (size_any _ _ _ (xss[j]?.getD []) _ (HLJ.out.1.below HB.out)).mono ?_; rintro e w' ⟨rfl, hw'⟩; obtain rfl := hw'.symm; rw [← HT.out])
        go_ret2
        rw [HPP.out]
        exact ⟨outPL_none _ _, HB.out⟩
    · obtain rfl : j = len := by omega
      have hall : sizesE xss = 0 := sizesE_all xss (fun t ht => HG.out t (by rw [HN.out] at ht; exact ht))
      have HZ := hide (sizesE_ok xss hall)
      have HD2 : Hid (dimsP k es ps lo hi st xss = if (shapeP k es ps lo hi st xss).2 ≠ 0 then ([], (shapeP k es ps lo hi st xss).2) else if sizeE (shapeP k es ps lo hi st xss).1 ≠ 0 then ([], sizeE (shapeP k es ps lo hi st xss).1) else ((shapeP k es ps lo hi st xss).1, 0)) := by
        rw [Hid, HDP.out, HN.out, if_neg (by rw [HC1.out]; simp), if_neg (by rw [hall]; simp)]
      have HCS := hide (HSH.out wr _ cap HB.out (H.out.below HB.out) hcap)
      obtain ⟨⟨L, E⟩, hLE⟩ : ∃ r, r = shapeP k es ps lo hi st xss := ⟨_, rfl⟩
      rw [← hLE] at HCS HD2
      have hd2 := HD2.out
      simp only at hd2
      obtain ⟨o0, o1, o2, o3, o4, o5, o6⟩ := HO.out.cells
      clear hall hLE HDP HD2
      by_cases c3 : E = 0
      case neg =>
        have q : (E != 0) = true := by simp [c3]
        rw [if_pos c3] at hd2
        have HPP := hide hd2
        clear hd2 c3
        go_wp2_with (go_at_call 28; refine HCS.out.mono ?_; rintro e w1 ⟨⟨Z, nz, cz, rfl, hi1, hnc⟩, hb⟩; have HB2 := hide (Below.on HB.out hb); clear hi1 hb)
        go_ret2
        rw [HPP.out]
        exact ⟨outPL_none _ _, HB2.out⟩
      subst c3
      rw [if_neg (by simp)] at hd2
      obtain ⟨S, hS⟩ : ∃ S, S = sizeE L := ⟨_, rfl⟩
      have HSS := hide hS
      rw [← hS] at hd2
      clear hS
      by_cases c4 : S = 0
      · subst c4
        rw [if_neg (by simp)] at hd2
        have HPP := hide hd2
        clear hd2
        go_wp2_with (first
          | (go_at_call 28; refine HCS.out.mono ?_; rintro e w1 ⟨⟨Z, nz, cz, rfl, hi1, hnc⟩, hb⟩; have HI1 : Hid (Ints w1 Z nz L) := hi1; have HB2 := hide (Below.on HB.out hb); clear hi1 hb)
          | (go_at_call 27; refine (size_any _ _ _ L _ HI1.out).mono ?_; rintro e w' ⟨rfl, hw'⟩; obtain rfl := hw'.symm; rw [← HSS.out]))
        go_ret2
        rw [HPP.out]
        exact ⟨⟨_, _, _, rfl, HI1.out, hnc⟩, HB2.out⟩
      · have q : (S != 0) = true := by simp [c4]
        rw [if_pos c4] at hd2
        have HPP := hide hd2
        clear hd2 c4
        go_wp2_with (first
          | (go_at_call 28; refine HCS.out.mono ?_; rintro e w1 ⟨⟨Z, nz, cz, rfl, hi1, hnc⟩, hb⟩; have HI1 : Hid (Ints w1 Z nz L) := hi1; have HB2 := hide (Below.on HB.out hb); clear hi1 hb)
          | (go_at_call 27; refine (size_any _ _ _ L _ HI1.out).mono ?_; rintro e w' ⟨rfl, hw'⟩; obtain rfl := hw'.symm; rw [← HSS.out]))
        go_ret2
        rw [HPP.out]
        exact ⟨outPL_none _ _, HB2.out⟩

set_option maxRecDepth 100000 in
set_option maxHeartbeats 4000000 in
theorem Do_goodL (k x : Int) (ea : Option Addr) (el ec : Nat) (es : List Int) (pa : Option Addr) (pl pc : Nat) (ps : List Int) (la : Option Addr) (ll lc : Nat) (lo : List Int) (ha : Option Addr) (hl hc : Nat) (hi : List Int) (ta : Option Addr) (tl tc : Nat) (st : List Int) (A : Option Addr) (m cap : Nat) (v : Nat → ArrV) (L : List Int) (n : Nat) (f : List Int) (w : World)
    (he : Lst w ea el ec es) (hp : Lst w pa pl pc ps) (hlo : Lst w la ll lc lo) (hhi : Lst w ha hl hc hi) (hst : Lst w ta tl tc st) (hA : Arrs w A m v) (hm : m ≤ 1048576) (hE : doE k es ps lo hi st m v = 0) (hL : L = (dimsP k es ps lo hi st (dimsOf m v)).1) (hN : (n : Int) = prod L) (hfl : f.length = n) (hfb : ∀ y ∈ f, -9223372036854775808 ≤ y ∧ y ≤ 9223372036854775807)
    (hS : ∀ (W : World) (A : Option Addr) (cap : Nat), Below w.heap.size w W → Lsts W A m (dimsOf m v) → m ≤ cap → Calls Tryz.prog 28 #[.agg #[.int .i64 k, .slice ea el ec, .slice pa pl pc, .slice la ll lc, .slice ha hl hc, .slice ta tl tc, .int .i64 x], .slice A m cap] W fun e w' => OutPL e w' (shapeP k es ps lo hi st (dimsOf m v)) ∧ Below W.heap.size W w')
    (hwork : 0 < n → ∀ (W : World) (Z : Option Addr) (nz cz g : Nat), Below w.heap.size w W → w.heap.size ≤ g → Ints W Z nz L → nz ≤ cz → W.rowIs g 2 n (fun _ => .int .i64 0) → Calls Tryz.prog 19 #[.agg #[.slice Z nz cz, .slice (some ⟨g, 0, none⟩) n n], .agg #[.int .i64 k, .slice ea el ec, .slice pa pl pc, .slice la ll lc, .slice ha hl hc, .slice ta tl tc, .int .i64 x], .slice A m cap] W fun e W' => e = .returned (.tuple #[]) ∧ W'.rowIs g 2 n (fun j => .int .i64 (f[j]?.getD 0)) ∧ Save g W W') :
    Calls Tryz.prog 7 #[.agg #[.int .i64 k, .slice ea el ec, .slice pa pl pc, .slice la ll lc, .slice ha hl hc, .slice ta tl tc, .int .i64 x], .slice A m cap] w fun e w' => (∃ (Z : Option Addr) (nz cz G : Nat), e = .returned (.tuple #[.agg #[.slice Z nz cz, .slice (some ⟨G, 0, none⟩) n n], .int .i64 0]) ∧ (Ints w' Z nz L ∧ (nz ≤ cz ∧ (Z = none → cz = 0))) ∧ Ints w' (some ⟨G, 0, none⟩) n f ∧ w.heap.size ≤ G) ∧ Below w.heap.size w w' := by
  obtain ⟨c1, c2, c3⟩ := doE_ok hE
  have hz := dimsP_ok c3
  rw [← hL] at hz
  have hn6 : n ≤ 65536 := by
    have : arrE L n = 0 := by
      unfold arrE
      rw [if_neg (by rw [hz]; simp), if_neg (by rw [size_prod hz, hN]; simp)]
    exact (arrE_ok this).2.2
  have HE := hide he
  have HP := hide hp
  have HLO := hide hlo
  have HHI := hide hhi
  have HST := hide hst
  have HAA := hide hA
  have HC1 := hide c1
  have HOK := hide (arrsE_ok m c2)
  have HZ := hide hz
  have HN := hide hN
  have HFL := hide hfl
  have HFB := hide hfb
  have HW := hide hwork
  have HSH := hide hS
  have HDP : Hid (dimsP k es ps lo hi st (dimsOf m v) = (L, 0)) := by
    rw [Hid, hL]
    exact Prod.ext rfl c3
  have HB1 := hide ((Below.refl w.heap.size w).alloc (Nat.le_refl _) (.cells #[.int .i64 k, .slice ea el ec, .slice pa pl pc, .slice la ll lc, .slice ha hl hc, .slice ta tl tc, .int .i64 x] 24))
  have HB2 := hide (HB1.out.alloc HB1.out.size (.cells #[.slice none 0 0, .slice none 0 0] 28))
  have HOP := hide ((OpAt.new w k (.slice ea el ec) (.slice pa pl pc) (.slice la ll lc) (.slice ha hl hc) (.slice ta tl tc) x).alloc (.cells #[.slice none 0 0, .slice none 0 0] 28))
  have har := ArrAt.new (w.alloc (.cells #[.int .i64 k, .slice ea el ec, .slice pa pl pc, .slice la ll lc, .slice ha hl hc, .slice ta tl tc, .int .i64 x] 24)) (.slice none 0 0) (.slice none 0 0)
  simp only [World.size_alloc] at har
  have HAR := hide har
  obtain ⟨o0, o1, o2, o3, o4, o5, o6⟩ := HOP.out.cells
  have hmk := run_make_row' (P := Tryz.prog) 45 22 (.slice none 0 0) 24 Tryz.underlying45 info_ints rfl .i64 .i64 m (by omega) (by omega)
  have hmk2 := run_make_row' (P := Tryz.prog) 26 2 (.int .i64 0) 8 Tryz.underlying26 info_int64 rfl .i64 .i64 n (by omega) (by omega)
  clear he hp hlo hhi hst hA har hE hL hN hfl hfb hwork hS c1 c2 c3 hz
  go_enter Tryz.func7, Tryz.ntmps7
  go_wp2_with (go_at_call 15; refine (takes_any _ _ _).mono ?_; rintro e w' ⟨rfl, hw'⟩; obtain rfl := hw'.symm; rw [HC1.out])
  go_loopw [28] (fun i wr => ∃ j : Nat, j ≤ m ∧ i = .int .i64 j ∧ wr.rowIs (w.heap.size + 1 + 1) 22 m (rowV v j) ∧ OpAt wr w.heap.size k (.slice ea el ec) (.slice pa pl pc) (.slice la ll lc) (.slice ha hl hc) (.slice ta tl tc) x ∧ ArrAt wr (w.heap.size + 1) (.slice none 0 0) (.slice none 0 0) ∧ Below w.heap.size w wr) (fun i _ => m - (intOf i).toNat)
  case atStart =>
    refine ⟨0, by omega, rfl, ?_, HOP.out.alloc _, HAR.out.alloc _, HB2.out.alloc HB2.out.size _⟩
    have := World.rowIs_made ((w.alloc (.cells #[.int .i64 k, .slice ea el ec, .slice pa pl pc, .slice la ll lc, .slice ha hl hc, .slice ta tl tc, .int .i64 x] 24)).alloc (.cells #[.slice none 0 0, .slice none 0 0] 28)) (.slice none 0 0) m 22
    simp only [World.size_alloc] at this
    exact this.congr (fun t _ => by simp [rowV])
  case round =>
    obtain ⟨j, hj, rfl, hrow, hop, har, hB⟩ := hrel
    have HR := hide hrow
    have HO := hide hop
    have HA := hide har
    have HB := hide hB
    clear hrow hop har hB o0 o1 o2 o3 o4 o5 o6
    by_cases hlt : j < m
    · obtain ⟨b, off, rfl, hcs⟩ := HAA.out.resolve_left (by omega)
      obtain ⟨d0, d1, hl⟩ := hcs j hlt
      have hbl : b < w.heap.size := lt_of_cell d0
      have hok := HOK.out j hlt
      obtain ⟨⟨da, dl, dc, ds, xa, xl, xc⟩, hv⟩ : ∃ u, u = v j := ⟨_, rfl⟩
      rw [← hv] at d0 d1 hl hok
      simp only [ArrV.d, ArrV.x] at d0 d1 hl hok
      have s0 := (HB.out.cell (p := ⟨b, off + j * 2, none⟩) hbl).trans d0
      have s1 := (HB.out.cell (p := ⟨b, off + j * 2 + 1, none⟩) hbl).trans d1
      have HL := hide hl
      have HV := hide hv
      have HE1 := hide hok
      have HAN := hide (ArrAt.new wr (.slice da dl dc) (.slice xa xl xc))
      have HBN := hide (HB.out.alloc HB.out.size (.cells #[.slice da dl dc, .slice xa xl xc] 28))
      have HAB := hide (HA.out.alloc (.cells #[.slice da dl dc, .slice xa xl xc] 28))
      obtain ⟨⟨a0, a1⟩, _⟩ := HAN.out.cells
      clear hcs d0 d1 hl hv hok
      go_wp2_with (go_at_call 16; refine (awrong_any da dl dc ds xa xl xc _ (HL.out.1.below HBN.out)).mono ?_; rintro e w1 ⟨rfl, hb⟩; rw [HE1.out]; have HB3 := hide (Below.on HBN.out hb); have HA3 := hide (HAB.out.below hb); have HO3 := hide ((HO.out.alloc _).below hb); have HR3 := hide ((HR.out.of_block (Below.heap_alloc _ (.cells #[.slice da dl dc, .slice xa xl xc] 28) _ HR.out.lt)).of_block (hb.block _ (by have := HR.out.lt; simp; omega))); have HAN3 := hide (HAN.out.below hb); clear a0 a1 hb; obtain ⟨⟨a0, a1⟩, _⟩ := HAN3.out.cells; have hr := HR3.out.cell hlt; have hf := HR3.out.frozen j)
      go_roundw
      case rel =>
        refine ⟨j + 1, by omega, by go_num, (HR3.out.set j (.slice da dl dc)).congr (fun t ht => ?_), HO3.out.set (p := ⟨w.heap.size + 1 + 1, j, none⟩) (by simp; omega) _, HA3.out.set (p := ⟨w.heap.size + 1 + 1, j, none⟩) (by simp) _, HB3.out.setCell (p := ⟨w.heap.size + 1 + 1, j, none⟩) (by simp; omega) _⟩
        by_cases e : t = j
        · rw [e, if_pos rfl, rowV, if_pos (by omega), ← HV.out]; rfl
        · rw [if_neg e, rowV, rowV]
          by_cases h : t < j
          · rw [if_pos h, if_pos (by omega)]
          · rw [if_neg h, if_neg (by omega)]
      case measure => simp [intOf]; omega
    · obtain rfl : j = m := by omega
      have HLS : Hid (Lsts wr (some ⟨w.heap.size + 1 + 1, 0, none⟩) j (dimsOf j v)) := by
        refine ⟨dimsOf_len _ _, by omega, ?_⟩
        by_cases h0 : j = 0
        · exact .inl h0
        · refine .inr ⟨_, _, rfl, fun t ht => ?_⟩
          obtain ⟨b, off, rfl, hcs⟩ := HAA.out.resolve_left h0
          have := HR.out.cell ht
          rw [rowV, if_pos ht, ArrV.d] at this
          exact ⟨_, _, _, by rw [Nat.zero_add]; exact this, by rw [dimsOf_at _ _ _ ht]; exact (hcs t ht).2.2.below HB.out⟩
      have hcd := Dims_L k x _ _ ec es _ _ pc ps _ _ lc lo _ _ hc hi _ _ tc st _ _ j (dimsOf j v) wr (HE.out.below HB.out) (HP.out.below HB.out) (HLO.out.below HB.out) (HHI.out.below HB.out) (HST.out.below HB.out) HLS.out (Nat.le_refl _) hm (fun W A cap hW => HSH.out W A cap (Below.on HB.out hW))
      rw [HDP.out] at hcd
      have HCD := hide hcd
      obtain ⟨o0, o1, o2, o3, o4, o5, o6⟩ := HO.out.cells
      clear hcd
      by_cases hn0 : (0 : Int) < (n : Int)
      case neg =>
        have hn2 : decide ((0 : Int) < (n : Int)) = false := decide_eq_false hn0
        have hn3 : n = 0 := by omega
        have hn4 : decide (0 < n) = false := decide_eq_false (by omega)
        have hn5 : ¬ 0 < n := by omega
        have HN3 := hide hn3
        clear hn3 hn0
        go_wp2_with (first
          | (go_at_call 17; refine HCD.out.mono ?_; rintro e w1 ⟨⟨Z, nz, cz, rfl, hi1, hnc⟩, hb⟩; have HI1 : Hid (Ints w1 Z nz L) := hi1; have HB2 := hide (Below.on HB.out hb); have hna := HA.out.lt; have HO2 := hide (HO.out.below hb); have HA2 := hide (HA.out.below hb); clear hi1 hb o0 o1 o2 o3 o4 o5 o6; obtain ⟨o0, o1, o2, o3, o4, o5, o6⟩ := HO2.out.cells)
          | (go_at_call 18; refine (count_any _ _ _ L _ HI1.out (count_ok HZ.out)).mono ?_; rintro e w' ⟨rfl, hw'⟩; obtain rfl := hw'.symm; rw [← HN.out]; have HO5 := hide ((HO2.out.alloc (.cells (madeCells #[.int .i64 0] n) 2)).alloc (.cells #[.slice Z nz cz, .slice (some ⟨w1.heap.size, 0, none⟩) n n] 28)); have HA5 := hide ((HA2.out.alloc (.cells (madeCells #[.int .i64 0] n) 2)).alloc (.cells #[.slice Z nz cz, .slice (some ⟨w1.heap.size, 0, none⟩) n n] 28)); have HB5 := hide ((HB2.out.alloc HB2.out.size (.cells (madeCells #[.int .i64 0] n) 2)).alloc (HB2.out.alloc HB2.out.size (.cells (madeCells #[.int .i64 0] n) 2)).size (.cells #[.slice Z nz cz, .slice (some ⟨w1.heap.size, 0, none⟩) n n] 28)); have hx5 := ArrAt.new (w1.alloc (.cells (madeCells #[.int .i64 0] n) 2)) (.slice Z nz cz) (.slice (some ⟨w1.heap.size, 0, none⟩) n n); simp only [World.size_alloc] at hx5; have HX5 := hide hx5; clear o0 o1 o2 o3 o4 o5 o6 hx5; obtain ⟨o0, o1, o2, o3, o4, o5, o6⟩ := HO5.out.cells; obtain ⟨⟨x0, x1⟩, _⟩ := HX5.out.cells; obtain ⟨⟨a0, a1⟩, fa0, fa1⟩ := HA5.out.cells))
        have hs1 := HB2.out.size
        have ha1 := HA2.out.lt
        obtain ⟨⟨u0, u1⟩, _⟩ := (HA5.out.put (.slice Z nz cz) (.slice (some ⟨w1.heap.size, 0, none⟩) n n)).cells
        refine bodyPost_ret (v := .tuple #[.agg #[.slice Z nz cz, .slice (some ⟨w1.heap.size, 0, none⟩) n n], .int .i64 0]) (by simp [results, Tryz.results7, go_sem, u0, u1]) rfl ⟨⟨Z, nz, cz, w1.heap.size, rfl, ⟨?_, hnc⟩, ?_, hs1⟩, ?_⟩
        · exact ints_put_arr (HI1.out.below (((Below.refl _ _).alloc (Nat.le_refl _) _).alloc (by simp) _)) HA5.out (fun _ _ e => by cases e) (fun _ _ e => by cases e) _ _
        · exact ⟨HFL.out, by omega, HFB.out, .inl HN3.out⟩
        · exact (HB5.out.setCell (p := ⟨w.heap.size + 1, 0, none⟩) (by simp) _).setCell (p := ⟨w.heap.size + 1, 1, none⟩) (by simp) _
      go_wp2_with (first
        | (go_at_call 17; refine HCD.out.mono ?_; rintro e w1 ⟨⟨Z, nz, cz, rfl, hi1, hnc⟩, hb⟩; have HI1 : Hid (Ints w1 Z nz L) := hi1; have HB2 := hide (Below.on HB.out hb); have hna := HA.out.lt; have HO2 := hide (HO.out.below hb); have HA2 := hide (HA.out.below hb); clear hi1 hb o0 o1 o2 o3 o4 o5 o6; obtain ⟨o0, o1, o2, o3, o4, o5, o6⟩ := HO2.out.cells)
        | (go_at_call 18; refine (count_any _ _ _ L _ HI1.out (count_ok HZ.out)).mono ?_; rintro e w' ⟨rfl, hw'⟩; obtain rfl := hw'.symm; rw [← HN.out]; have HO5 := hide ((HO2.out.alloc (.cells (madeCells #[.int .i64 0] n) 2)).alloc (.cells #[.slice Z nz cz, .slice (some ⟨w1.heap.size, 0, none⟩) n n] 28)); have HA5 := hide ((HA2.out.alloc (.cells (madeCells #[.int .i64 0] n) 2)).alloc (.cells #[.slice Z nz cz, .slice (some ⟨w1.heap.size, 0, none⟩) n n] 28)); have HB5 := hide ((HB2.out.alloc HB2.out.size (.cells (madeCells #[.int .i64 0] n) 2)).alloc (HB2.out.alloc HB2.out.size (.cells (madeCells #[.int .i64 0] n) 2)).size (.cells #[.slice Z nz cz, .slice (some ⟨w1.heap.size, 0, none⟩) n n] 28)); have hx5 := ArrAt.new (w1.alloc (.cells (madeCells #[.int .i64 0] n) 2)) (.slice Z nz cz) (.slice (some ⟨w1.heap.size, 0, none⟩) n n); simp only [World.size_alloc] at hx5; have HX5 := hide hx5; clear o0 o1 o2 o3 o4 o5 o6 hx5; obtain ⟨o0, o1, o2, o3, o4, o5, o6⟩ := HO5.out.cells; obtain ⟨⟨x0, x1⟩, _⟩ := HX5.out.cells)
        | (go_at_call 19; refine (HW.out (by omega) _ Z nz cz w1.heap.size HB5.out HB2.out.size (HI1.out.below (((Below.refl _ _).alloc (Nat.le_refl _) _).alloc (by simp) _)) hnc.1 ((World.rowIs_made w1 (.int .i64 0) n 2).of_block (Below.heap_alloc _ _ _ (by simp)))).mono ?_; rintro e w6 ⟨rfl, hr6, hsv⟩; have hs0 := HB2.out.size; have ha0 := HA2.out.lt; have HR6 := hide hr6; have HX6 : Hid (ArrAt w6 (w1.heap.size + 1) _ _) := (hsv.1 (w1.heap.size + 1) (by simp) (by omega)).trans HX5.out; have HA6 : Hid (ArrAt w6 (w.heap.size + 1) _ _) := (hsv.1 (w.heap.size + 1) (by simp; omega) (by omega)).trans HA5.out; have HI6 := hide (ints_save HI1.out (((Below.refl _ _).alloc (Nat.le_refl _) (.cells (madeCells #[.int .i64 0] n) 2)).alloc (by simp) (.cells #[.slice Z nz cz, .slice (some ⟨w1.heap.size, 0, none⟩) n n] 28)) hsv); have HB6 := hide (Save.below HB5.out hsv (by omega) (Nat.le_refl _)); clear hsv hr6 x0 x1 o0 o1 o2 o3 o4 o5 o6; obtain ⟨⟨x0, x1⟩, _⟩ := HX6.out.cells; obtain ⟨⟨a0, a1⟩, fa0, fa1⟩ := HA6.out.cells))
      have hs1 := HB2.out.size
      have ha1 := HA2.out.lt
      obtain ⟨⟨u0, u1⟩, _⟩ := (HA6.out.put (.slice Z nz cz) (.slice (some ⟨w1.heap.size, 0, none⟩) n n)).cells
      refine bodyPost_ret (v := .tuple #[.agg #[.slice Z nz cz, .slice (some ⟨w1.heap.size, 0, none⟩) n n], .int .i64 0]) (by simp [results, Tryz.results7, go_sem, u0, u1]) rfl ⟨⟨Z, nz, cz, w1.heap.size, rfl, ⟨?_, hnc⟩, ?_, hs1⟩, ?_⟩
      · exact ints_put_arr HI6.out HA6.out (fun _ _ e => by cases e) (fun _ _ e => by cases e) _ _
      · have hr8 := (HR6.out.setOther (a := ⟨w.heap.size + 1, 0, none⟩) (by simp; omega) (.slice Z nz cz)).setOther (a := ⟨w.heap.size + 1, 1, none⟩) (by simp; omega) (.slice (some ⟨w1.heap.size, 0, none⟩) n n)
        exact ⟨HFL.out, by omega, HFB.out, .inr ⟨_, _, rfl, fun t ht => by rw [Nat.zero_add]; exact hr8.cell ht⟩⟩
      · exact (HB6.out.setCell (p := ⟨w.heap.size + 1, 0, none⟩) (by simp) _).setCell (p := ⟨w.heap.size + 1, 1, none⟩) (by simp) _

/-- What Do makes, with a list of dimensions that can be handed on. -/
def DoesToL (W : World) (L f : List Int) (N : Nat) (e : Ending) (W' : World) : Prop :=
  ∃ (Z : Option Addr) (nz cz G : Nat), e = .returned (.tuple #[.agg #[.slice Z nz cz, .slice (some ⟨G, 0, none⟩) N N], .int .i64 0]) ∧ (Ints W' Z nz L ∧ (nz ≤ cz ∧ (Z = none → cz = 0))) ∧ Ints W' (some ⟨G, 0, none⟩) N f ∧ W.heap.size ≤ G

theorem do_takeL (x : Int) (ea : Option Addr) (el ec : Nat) (es : List Int) (pa : Option Addr) (pl pc : Nat) (ps : List Int) (la : Option Addr) (ll lc : Nat) (lo : List Int) (ha : Option Addr) (hl hc : Nat) (hi : List Int) (ta : Option Addr) (tl tc : Nat) (st : List Int) (ds : List Int) (n : Nat) (fa : Option Addr) (fl fc : Nat) (gs : List Int) (ya : Option Addr) (m yc : Nat) (ys : List Int) (w : World)
    (he : Lst w ea el ec es) (hp : Lst w pa pl pc ps) (hlo : Lst w la ll lc lo) (hhi : Lst w ha hl hc hi) (hst : Lst w ta tl tc st) (b0 : el ≤ 1048576) (b1 : pl ≤ 1048576) (b2 : ll ≤ 1048576) (b3 : hl ≤ 1048576) (b4 : tl ≤ 1048576) (hf : Lst w fa fl fc gs) (hy : Ints w ya m ys) (hE : doE 18 es ps lo hi st 2 (pairV ds n gs m) = 0) : ∃ D long : Nat, ds.length ≠ 0 ∧ ds[0]?.getD 0 = (D : Int) ∧ prod (ds.drop 1) = (long : Int) ∧ n = D * long ∧ arrE (gs ++ ds.drop 1) (m * long) = 0 ∧ ∀ (W : World) (b off cap : Nat) (da : Option Addr) (dl dc : Nat) (xa : Option Addr) (xc : Nat) (xs : List Int), Below w.heap.size w W → W.cell? ⟨b, off, none⟩ = some (.slice da dl dc) → W.cell? ⟨b, off + 1, none⟩ = some (.slice xa n xc) → W.cell? ⟨b, off + 2, none⟩ = some (.slice fa fl fc) → W.cell? ⟨b, off + 3, none⟩ = some (.slice ya m yc) → Lst W da dl dc ds → Ints W xa n xs → n ≤ xc →
    Calls Tryz.prog 7 #[.agg #[.int .i64 18, .slice ea el ec, .slice pa pl pc, .slice la ll lc, .slice ha hl hc, .slice ta tl tc, .int .i64 x], .slice (some ⟨b, off, none⟩) 2 cap] W fun e W' => DoesToL W (gs ++ ds.drop 1) (takeL xs ys long D (m * long)) (m * long) e W' ∧ Below W.heap.size W W' := by
  obtain ⟨ha1, ha2, hs1, hs2, hs3⟩ := pairV_parts hE
  have hsh : shapeP 18 es ps lo hi st [ds, gs] = takeP ds gs := rfl
  rw [hsh] at hs1 hs2 hs3
  have hz1 := (arrE_ok ha1).1
  have hz2 := (arrE_ok ha2).1
  have hn := (arrE_ok ha1).2.1
  have hm := (arrE_ok ha2).2.1
  have hn6 := (arrE_ok ha1).2.2
  have hT : ds.length ≠ 0 ∧ (takeP ds gs).1 = gs ++ ds.drop 1 := by
    unfold takeP at hs1 ⊢
    by_cases c : ds.length = 0
    · rw [if_pos c] at hs1; exact absurd hs1 (by simp)
    · rw [if_neg c]; exact ⟨c, rfl⟩
  obtain ⟨hl0, hq1⟩ := hT
  rw [hq1] at hs2 hs3
  obtain ⟨haL, hN⟩ := arrE_of hs2
  obtain ⟨D, hD⟩ := nat_of' (size_nn hz1 _ (mem_getD ds 0 (by omega)))
  obtain ⟨long, hlong⟩ := nat_prod (l := ds.drop 1) (fun x hx => size_nn hz1 x (List.mem_of_mem_drop hx))
  have en : n = D * long := by
    have := prod_drop ds 0 (by omega)
    rw [List.drop_zero, hD, Nat.zero_add, hlong, ← Int.natCast_mul] at this
    omega
  have eN : (prod (gs ++ ds.drop 1)).toNat = m * long := by
    have : prod (gs ++ ds.drop 1) = ((m * long : Nat) : Int) := by rw [prod_append, ← hm, hlong, ← Int.natCast_mul]
    rw [this]; omega
  have hN6 := (arrE_ok haL).2.2
  rw [eN] at haL hN hN6
  refine ⟨D, long, hl0, hD, hlong, en, haL, ?_⟩
  intro W b off cap da dl dc xa xc xs hW c0 c1 c2 c3 hd hx hxc
  refine Do_goodL 18 x ea el ec es pa pl pc ps la ll lc lo ha hl hc hi ta tl tc st (some ⟨b, off, none⟩) 2 cap (twoV2 da dl dc ds xa n xc fa fl fc gs ya m yc) (gs ++ ds.drop 1) (m * long) (takeL xs ys long D (m * long)) W (he.below hW) (hp.below hW) (hlo.below hW) (hhi.below hW) (hst.below hW) (arrs_two c0 c1 c2 c3 hd (hf.below hW)) (by omega) ((doE_congr (two_congr _ _ _ _ _ _ _ _ _ _ _ _ _ _)).trans hE) hs3.symm hN (takeL_length _ _ _ _ _) (fun y hy' => by
    simp only [takeL, List.mem_map] at hy'
    obtain ⟨i, _, rfl⟩ := hy'
    split
    · exact bnd_at hx.2.2.1 _
    · omega) (fun W2 A cap2 hW2 hls hcp => shape_18L x ea el ec es pa pl pc ps la ll lc lo ha hl hc hi ta tl tc st A 2 cap2 _ W2 ((he.below hW).below hW2) ((hp.below hW).below hW2) ((hlo.below hW).below hW2) ((hhi.below hW).below hW2) ((hst.below hW).below hW2) hls hcp (fun d hd => ?_) rfl (by omega) b0 b1 b2 b3 b4) ?_
  · have hd' : d ∈ [ds, gs] := hd
    simp only [List.mem_cons, List.not_mem_nil, or_false] at hd'
    rcases hd' with rfl | rfl
    · exact hz1
    · exact hz2
  intro hpos W2 Z nz cz g hW2 hg _ _ hrow
  have hm0 := (pos_of_lt_mul hpos).1
  have hbk := lt_of_cell c0
  refine work_take x (.slice ea el ec) (.slice pa pl pc) (.slice la ll lc) (.slice ha hl hc) (.slice ta tl tc) Z nz cz g (m * long) b off cap (.slice da dl dc) (.slice xa n xc) (.slice fa fl fc) (.slice ya m yc) _ W2 ((hW2.cell (p := ⟨b, off, none⟩) (lt_of_cell c0)).trans c0) ((hW2.cell (p := ⟨b, off + 1, none⟩) (lt_of_cell c1)).trans c1) ((hW2.cell (p := ⟨b, off + 2, none⟩) (lt_of_cell c2)).trans c2) ((hW2.cell (p := ⟨b, off + 3, none⟩) (lt_of_cell c3)).trans c3) hrow (fun W3 hW3 hrow3 => ?_)
  have hWW := hW.trans (hW2.mono hW.size)
  have h3 := hWW.trans (hW3.mono hWW.size)
  have g3 := hW2.trans (hW3.mono hW2.size)
  exact takeRows_any g (m * long) m long D da dl dc ds xa n xc xs ya yc ys W3 (hd.1.below g3) (by rw [← hd.1.1]; omega) hD (hx.below g3) (hy.below h3) hxc rfl hpos en hN6 hn6 (off_new (W := W) hd.1 (by rw [← hd.1.1]; omega) hg) (fun h0 => off_new (W := W) hx h0 hg) (off_new (W := W) (hy.below hW) hm0 hg) hrow3

end Go.Proofs.YtmnfhedlplhlhaaGreat.V
