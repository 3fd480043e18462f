/-
  Two dimensions: what may be asked, and what is read.
-/
import Derived.Test.YtdhkglafpjcdhaaGArrWrap
import Derived.Test.YtdhkglafpjcdhaaGArrDotF
import Derived.Test.YtdhkglafpjcdhaaGArrWork
namespace Go.Proofs.Ytdhkglafpjcdhaa.V
open Go.RowKit

theorem sizeE_swap (a b : Int) : sizeE [a, b] = sizeE [b, a] := by
  have h1 : [a, b].any badDim = [b, a].any badDim := by simp [Bool.or_comm]
  have h2 : ((0 : Int) ∈ [a, b]) = ((0 : Int) ∈ [b, a]) := by simp [or_comm]
  have h3 : prod [a, b] = prod [b, a] := by simp [prod, Int.mul_comm]
  have h4 : [a, b].length = [b, a].length := rfl
  unfold sizeE
  rw [h1, h3, h4]
  simp only [h2]
theorem steps2 {p q : Nat} (hp : 0 < p) (hq : 0 < q) : stepsV [(p : Int), (q : Int)] = [(q : Int), 1] := by
  have h0 : ¬ (0 : Int) ∈ [(p : Int), (q : Int)] := by simp; omega
  have e : ∀ k, stepV [(p : Int), (q : Int)] k = beh [(p : Int), (q : Int)] k := fun k => by unfold stepV; rw [if_neg h0]
  show (List.range 2).map (stepV [(p : Int), (q : Int)]) = _
  simp [List.range_succ, e, beh, prod]
theorem two_of_len {l : List Int} (h : l.length = 2) : ∃ a b, l = [a, b] := by
  match l, h with
  | [a, b], _ => exact ⟨a, b, rfl⟩
theorem taken01 (a b : Int) : taken [a, b] [0, 1] = [a, b] := rfl
theorem taken10 (a b : Int) : taken [a, b] [1, 0] = [b, a] := rfl
theorem wrong_swap {a b s t : Int} (h : wrongE 0 [a, b] [s, t] = 0) : wrongE 0 [b, a] [t, s] = 0 := by
  obtain ⟨h1, h2, h3⟩ := wrongE_ok h
  unfold wrongE
  rw [if_neg (by rw [sizeE_swap, h1]; simp), if_neg (by simp), if_neg]
  unfold beyondB at *
  simp only [List.any_cons, List.any_nil, Bool.or_false, Bool.or_eq_false_iff] at h3
  simp [h3]

/-- A matrix, as it lies. -/
theorem flat_len {p q n : Nat} (h : arrE [(p : Int), (q : Int)] n = 0) : n = p * q := by
  have h1 := (arrE_ok h).2.1
  have hp : prod [(p : Int), (q : Int)] = ((p * q : Nat) : Int) := by simp [prod]
  rw [hp] at h1
  omega
theorem arrE_swap {p q n : Nat} (h : arrE [(p : Int), (q : Int)] n = 0) : arrE [(q : Int), (p : Int)] n = 0 := by
  have h0 := (arrE_ok h).1
  have h1 := flat_len h
  have hz : sizeE [(q : Int), (p : Int)] = 0 := by rw [sizeE_swap]; exact h0
  unfold arrE
  rw [if_neg (by rw [hz]; simp), if_neg]
  rw [size_prod hz]
  simp [prod, h1, Int.mul_comm]
theorem arrE_two {p q : Nat} (h : sizeE [(p : Int), (q : Int)] = 0) : arrE [(p : Int), (q : Int)] (p * q) = 0 := by
  unfold arrE
  rw [if_neg (by rw [h]; simp), if_neg]
  rw [size_prod h]
  simp [prod]
theorem readsA {p q m : Nat} (h : m < p * q) : (readsV 0 (taken [(p : Int), (q : Int)] [0, 1]) (taken (stepsV [(p : Int), (q : Int)]) [0, 1]))[m]?.getD 0 = (m : Int) := by
  obtain ⟨hp, hq⟩ := pos_of_lt_mul h
  rw [steps2 hp hq, taken01, taken01, reads2 _ _ _ _ _ h]
  have := Nat.div_add_mod m q
  rw [Nat.mul_comm] at this
  rw [Int.mul_one, ← Int.natCast_mul, ← Int.natCast_add, this]
theorem readsB {q r m : Nat} (h : m < r * q) : (readsV 0 (taken [(q : Int), (r : Int)] [1, 0]) (taken (stepsV [(q : Int), (r : Int)]) [1, 0]))[m]?.getD 0 = ((m % q * r + m / q : Nat) : Int) := by
  obtain ⟨hr, hq⟩ := pos_of_lt_mul h
  rw [steps2 hq hr, taken10, taken10, reads2 _ _ _ _ _ h]
  rw [Int.mul_one, ← Int.natCast_mul, ← Int.natCast_add, Nat.add_comm]
theorem readsA_len (p q : Nat) : (readsV 0 (taken [(p : Int), (q : Int)] [0, 1]) (taken (stepsV [(p : Int), (q : Int)]) [0, 1])).length = p * q := by
  obtain ⟨s, t, e⟩ := two_of_len (stepsV_len [(p : Int), (q : Int)])
  rw [e, taken01, taken01, reads2_len]
theorem readsB_len (q r : Nat) : (readsV 0 (taken [(q : Int), (r : Int)] [1, 0]) (taken (stepsV [(q : Int), (r : Int)]) [1, 0])).length = r * q := by
  obtain ⟨s, t, e⟩ := two_of_len (stepsV_len [(q : Int), (r : Int)])
  rw [e, taken10, taken10, reads2_len]
theorem place_lt {q r m : Nat} (h : m < r * q) : m % q * r + m / q < q * r := row_lt (Nat.mod_lt _ (pos_of_lt_mul h).2) (div_row h)
theorem look_turn (xs : List Int) (p q : Nat) : lookL xs (readsV 0 (taken [(p : Int), (q : Int)] [1, 0]) (taken (stepsV [(p : Int), (q : Int)]) [1, 0])) = turnL xs p q := by
  apply List.ext_getElem?
  intro i
  by_cases hi : i < q * p
  · have l1 : i < (lookL xs (readsV 0 (taken [(p : Int), (q : Int)] [1, 0]) (taken (stepsV [(p : Int), (q : Int)]) [1, 0]))).length := by rw [lookL_length, readsB_len]; exact hi
    have l2 : i < (turnL xs p q).length := by rw [turnL_length]; exact hi
    have h1 := lookL_at xs _ i (by rw [readsB_len]; exact hi)
    rw [readsB hi, Int.toNat_natCast, ← turnL_at xs p q i hi] at h1
    rw [List.getElem?_eq_getElem l1, List.getElem?_eq_getElem l2] at h1 ⊢
    simpa using h1
  · rw [List.getElem?_eq_none (by rw [lookL_length, readsB_len]; omega), List.getElem?_eq_none (by rw [turnL_length]; omega)]
theorem sub_at (xs : List Int) (f l k : Nat) (h : k < l) : (sub xs f l)[k]?.getD 0 = xs[f + k]?.getD 0 := by
  simp [sub, List.getElem?_take_of_lt h]
/-- What a Dot puts, of two matrices. -/
theorem dot_mat (xs ys : List Int) (p q r : Nat) : dotF (lookL xs (readsV 0 (taken [(p : Int), (q : Int)] [0, 1]) (taken (stepsV [(p : Int), (q : Int)]) [0, 1]))) (lookL ys (readsV 0 (taken [(q : Int), (r : Int)] [1, 0]) (taken (stepsV [(q : Int), (r : Int)]) [1, 0]))) q p r (p * r) = matL xs ys p q r := by
  unfold dotF matL
  refine List.map_congr_left (fun i hi => ?_)
  have hi' : i < p * r := by simpa using hi
  have h1 : i / r < p := div_row hi'
  have h2 : i % r < r := Nat.mod_lt _ (pos_of_lt_mul hi').2
  rw [innS_sum]
  congr 1
  refine sumN_ext q (fun k hk => ?_)
  rw [sub_at _ _ _ _ hk, sub_at _ _ _ _ hk, Nat.div_eq_of_lt h1, Nat.zero_mul, Nat.zero_add]
  have g1 : i / r * q + k < p * q := row_lt h1 hk
  have g2 : i % r * q + k < r * q := row_lt h2 hk
  rw [lookL_at _ _ _ (by rw [readsA_len]; exact g1), lookL_at _ _ _ (by rw [readsB_len]; exact g2), readsA g1, readsB g2, Int.toNat_natCast, Int.toNat_natCast, row_mod _ _ _ hk, row_div _ _ _ hk]

/-- What Do tells of a Dot of two matrices. -/
theorem mat_ok {v : Nat → ArrV} {a b c d : Int} (h0 : (v 0).ds = [a, b]) (h1 : (v 1).ds = [c, d]) (h : doE 16 [] [1] [] [] [0] 2 v = 0) : arrE [a, b] (v 0).xl = 0 ∧ arrE [c, d] (v 1).xl = 0 ∧ b = c ∧ sizeE [a, d] = 0 := by
  obtain ⟨c1, c2, c3⟩ := doE_ok h
  have k0 := arrsE_ok 2 c2 0 (by omega)
  have k1 := arrsE_ok 2 c2 1 (by omega)
  rw [h0] at k0
  rw [h1] at k1
  have hz := dimsP_ok c3
  have hdo : dimsOf 2 v = [[a, b], [c, d]] := by simp [dimsOf, List.range_succ, h0, h1]
  rw [hdo] at c3 hz
  have e1 : takesE 16 [[a, b], [c, d]].length = 0 := by show takesE 16 2 = 0; decide
  have e2 : sizesE [[a, b], [c, d]] = 0 := by simp [sizesE, (arrE_ok k0).1, (arrE_ok k1).1]
  have e3 : shapeP 16 [] [1] [] [] [0] [[a, b], [c, d]] = dotP [1] [0] [] [] [a, b] [c, d] := rfl
  have e4 : dotL [1] [0] [] [] [a, b] [c, d] = [a, d] := rfl
  unfold dimsP at c3 hz
  rw [if_neg (by rw [e1]; simp), if_neg (by rw [e2]; simp), e3] at c3 hz
  by_cases hB : dotB [1] [0] [] [] [a, b] [c, d] = true
  · have e5 : dotP [1] [0] [] [] [a, b] [c, d] = ([a, d], 0) := by unfold dotP; rw [if_pos hB, e4]
    rw [e5, if_neg (by simp)] at c3 hz
    have hbc : b = c := by
      unfold dotB at hB
      simp only [Bool.and_eq_true, decide_eq_true_eq] at hB
      have := hB.2.2.2
      have e6 : taken [a, b] [1] = [b] := rfl
      have e7 : taken [c, d] [0] = [c] := rfl
      rw [e6, e7] at this
      simpa using this
    refine ⟨k0, k1, hbc, ?_⟩
    by_cases hs : sizeE [a, d] = 0
    · exact hs
    · rw [if_pos hs] at c3; exact absurd c3 hs
  · have e5 : dotP [1] [0] [] [] [a, b] [c, d] = ([], 6) := by unfold dotP; rw [if_neg hB]
    rw [e5, if_pos (by simp)] at c3
    exact absurd c3 (by simp)
theorem ok_mat {v : Nat → ArrV} {p q r : Nat} (h0 : (v 0).ds = [(p : Int), (q : Int)]) (h1 : (v 1).ds = [(q : Int), (r : Int)]) (k0 : arrE [(p : Int), (q : Int)] (v 0).xl = 0) (k1 : arrE [(q : Int), (r : Int)] (v 1).xl = 0) (hs : sizeE [(p : Int), (r : Int)] = 0) : doE 16 [] [1] [] [] [0] 2 v = 0 ∧ (dimsP 16 [] [1] [] [] [0] (dimsOf 2 v)).1 = [(p : Int), (r : Int)] ∧ dotB [1] [0] [] [] [(p : Int), (q : Int)] [(q : Int), (r : Int)] = true := by
  have hdo : dimsOf 2 v = [[(p : Int), (q : Int)], [(q : Int), (r : Int)]] := by simp [dimsOf, List.range_succ, h0, h1]
  have e1 : takesE 16 [[(p : Int), (q : Int)], [(q : Int), (r : Int)]].length = 0 := by show takesE 16 2 = 0; decide
  have e0 : takesE 16 2 = 0 := by decide
  have e2 : sizesE [[(p : Int), (q : Int)], [(q : Int), (r : Int)]] = 0 := by simp [sizesE, (arrE_ok k0).1, (arrE_ok k1).1]
  have e3 : shapeP 16 [] [1] [] [] [0] [[(p : Int), (q : Int)], [(q : Int), (r : Int)]] = dotP [1] [0] [] [] [(p : Int), (q : Int)] [(q : Int), (r : Int)] := rfl
  have e4 : dotL [1] [0] [] [] [(p : Int), (q : Int)] [(q : Int), (r : Int)] = [(p : Int), (r : Int)] := rfl
  have hB : dotB [1] [0] [] [] [(p : Int), (q : Int)] [(q : Int), (r : Int)] = true := by
    unfold dotB
    have e6 : taken [(p : Int), (q : Int)] [1] = [(q : Int)] := rfl
    have e7 : taken [(q : Int), (r : Int)] [0] = [(q : Int)] := rfl
    have e8 : taken [(p : Int), (q : Int)] [] = taken [(q : Int), (r : Int)] [] := rfl
    have e9 : onceB ([] ++ [1]) [(p : Int), (q : Int)].length = true := by show onceB [1] 2 = true; decide
    have e10 : onceB ([] ++ [0]) [(q : Int), (r : Int)].length = true := by show onceB [0] 2 = true; decide
    rw [e9, e10, e6, e7, e8]; simp
  have e5 : dotP [1] [0] [] [] [(p : Int), (q : Int)] [(q : Int), (r : Int)] = ([(p : Int), (r : Int)], 0) := by unfold dotP; rw [if_pos hB, e4]
  have hdp : dimsP 16 [] [1] [] [] [0] (dimsOf 2 v) = ([(p : Int), (r : Int)], 0) := by
    rw [hdo]
    unfold dimsP
    rw [if_neg (by rw [e1]; simp), if_neg (by rw [e2]; simp), e3, e5, if_neg (by simp), if_neg (by simp [hs])]
  refine ⟨?_, by rw [hdp], hB⟩
  unfold doE
  rw [if_neg (by rw [e0]; simp), if_neg, hdp]
  rw [arrsE_all 2 (fun j hj => by
    have : j = 0 ∨ j = 1 := by omega
    rcases this with rfl | rfl
    · rw [h0]; exact k0
    · rw [h1]; exact k1)]
  simp
/-- What Do tells of a Turn of a matrix. -/
theorem ok_turn {v : Nat → ArrV} {p q : Nat} (h0 : (v 0).ds = [(p : Int), (q : Int)]) (k0 : arrE [(p : Int), (q : Int)] (v 0).xl = 0) : turnE 0 [(p : Int), (q : Int)] (stepsV [(p : Int), (q : Int)]) [1, 0] = 0 ∧ doE 11 [] [1, 0] [] [] [] 1 v = 0 ∧ (dimsP 11 [] [1, 0] [] [] [] (dimsOf 1 v)).1 = [(q : Int), (p : Int)] := by
  have hz := (arrE_ok k0).1
  have hdo : dimsOf 1 v = [[(p : Int), (q : Int)]] := by simp [dimsOf, List.range_succ, h0]
  have ht : turnE 0 [(p : Int), (q : Int)] (stepsV [(p : Int), (q : Int)]) [1, 0] = 0 := by
    unfold turnE
    rw [if_neg (by rw [wrong_whole hz]; simp), if_pos]
    show permB [1, 0] 2 = true
    decide
  have e1 : takesE 11 [[(p : Int), (q : Int)]].length = 0 := by show takesE 11 1 = 0; decide
  have e0 : takesE 11 1 = 0 := by decide
  have e2 : sizesE [[(p : Int), (q : Int)]] = 0 := by simp [sizesE, hz]
  have e3 : shapeP 11 [] [1, 0] [] [] [] [[(p : Int), (q : Int)]] = (okL (turnE 0 [(p : Int), (q : Int)] (stepsV [(p : Int), (q : Int)]) [1, 0]) (taken [(p : Int), (q : Int)] [1, 0]), turnE 0 [(p : Int), (q : Int)] (stepsV [(p : Int), (q : Int)]) [1, 0]) := rfl
  have hdp : dimsP 11 [] [1, 0] [] [] [] (dimsOf 1 v) = ([(q : Int), (p : Int)], 0) := by
    rw [hdo]
    unfold dimsP
    rw [if_neg (by rw [e1]; simp), if_neg (by rw [e2]; simp), e3, ht, if_neg (by simp)]
    simp only [okL, if_true]
    rw [taken10, if_neg (by rw [sizeE_swap, hz]; simp)]
  refine ⟨ht, ?_, by rw [hdp]⟩
  unfold doE
  rw [if_neg (by rw [e0]; simp), if_neg, hdp]
  rw [arrsE_all 1 (fun j hj => by
    obtain rfl : j = 0 := by omega
    rw [h0]; exact k0)]
  simp
end Go.Proofs.Ytdhkglafpjcdhaa.V

/-
  Contracts: array.Do of a Dot of two matrices, and of a Turn of one.
-/
namespace Go.Proofs.Ytdhkglafpjcdhaa.V
open Go.RowKit

theorem lst_none (w : World) : Lst w none 0 0 [] := ⟨ints_nil w, Nat.le_refl _, fun _ => rfl⟩
theorem lst_of {w : World} {Z : Option Addr} {n c : Nat} {xs : List Int} (h : Ints w Z n xs) (hc : n ≤ c) (h0 : 0 < n) : Lst w Z n c xs := ⟨h, hc, fun e => by
  obtain ⟨b, off, e', _⟩ := h.at h0
  rw [e] at e'; cases e'⟩
/-- The arrays of a product. -/
def twoV2 (da : Option Addr) (dl dc : Nat) (ds : List Int) (xa : Option Addr) (n xc : Nat) (ea : Option Addr) (el ec : Nat) (es : List Int) (ya : Option Addr) (m yc : Nat) (j : Nat) : ArrV := if j = 0 then ⟨da, dl, dc, ds, xa, n, xc⟩ else ⟨ea, el, ec, es, ya, m, yc⟩
theorem arrs_two {w : World} {b off : Nat} {da : Option Addr} {dl dc : Nat} {ds : List Int} {xa : Option Addr} {n xc : Nat} {ea : Option Addr} {el ec : Nat} {es : List Int} {ya : Option Addr} {m yc : Nat} (c0 : w.cell? ⟨b, off, none⟩ = some (.slice da dl dc)) (c1 : w.cell? ⟨b, off + 1, none⟩ = some (.slice xa n xc)) (c2 : w.cell? ⟨b, off + 2, none⟩ = some (.slice ea el ec)) (c3 : w.cell? ⟨b, off + 3, none⟩ = some (.slice ya m yc)) (hd : Lst w da dl dc ds) (he : Lst w ea el ec es) :
    Arrs w (some ⟨b, off, none⟩) 2 (twoV2 da dl dc ds xa n xc ea el ec es ya m yc) := .inr ⟨b, off, rfl, fun j hj => by
  have : j = 0 ∨ j = 1 := by omega
  rcases this with rfl | rfl
  · exact ⟨c0, c1, hd⟩
  · exact ⟨c2, c3, he⟩⟩

theorem Do_mat (P S : Nat) (b off cap : Nat) (da : Option Addr) (dl dc : Nat) (xa : Option Addr) (n1 xc : Nat) (xs : List Int) (ea : Option Addr) (el ec : Nat) (ya : Option Addr) (n2 yc : Nat) (ys : List Int) (p q r : Nat) (w : World)
    (hP : Ints w (some ⟨P, 0, none⟩) 1 [1]) (hS : Ints w (some ⟨S, 0, none⟩) 1 [0])
    (c0 : w.cell? ⟨b, off, none⟩ = some (.slice da dl dc)) (c1 : w.cell? ⟨b, off + 1, none⟩ = some (.slice xa n1 xc)) (c2 : w.cell? ⟨b, off + 2, none⟩ = some (.slice ea el ec)) (c3 : w.cell? ⟨b, off + 3, none⟩ = some (.slice ya n2 yc))
    (hd : Lst w da dl dc [(p : Int), (q : Int)]) (he : Lst w ea el ec [(q : Int), (r : Int)]) (hx : Ints w xa n1 xs) (hy : Ints w ya n2 ys) (e1 : arrE [(p : Int), (q : Int)] n1 = 0) (e2 : arrE [(q : Int), (r : Int)] n2 = 0) (e3 : sizeE [(p : Int), (r : Int)] = 0) :
    Calls Try.prog 11 #[.agg #[.int .i64 16, .slice none 0 0, .slice (some ⟨P, 0, none⟩) 1 1, .slice none 0 0, .slice none 0 0, .slice (some ⟨S, 0, none⟩) 1 1, .int .i64 0], .slice (some ⟨b, off, none⟩) 2 cap] w fun e w' =>
      (∃ (Z : Option Addr) (nz cz G : Nat), e = .returned (.tuple #[.agg #[.slice Z nz cz, .slice (some ⟨G, 0, none⟩) (p * r) (p * r)], .int .i64 0]) ∧ (Ints w' Z nz [(p : Int), (r : Int)] ∧ nz ≤ cz) ∧ Ints w' (some ⟨G, 0, none⟩) (p * r) (matL xs ys p q r) ∧ w.heap.size ≤ G) ∧ Below w.heap.size w w' := by
  have hdl : dl = 2 := hd.1.1.symm
  have hel : el = 2 := he.1.1.symm
  have hn1 := flat_len e1
  have hn2 := flat_len e2
  have hn16 := (arrE_ok e1).2.2
  have hn26 := (arrE_ok e2).2.2
  have hz1 := (arrE_ok e1).1
  have hz2 := (arrE_ok e2).1
  have hn6 := (arrE_ok (arrE_two e3)).2.2
  obtain ⟨hE, hL, hB⟩ := ok_mat (v := twoV2 da dl dc [(p : Int), (q : Int)] xa n1 xc ea el ec [(q : Int), (r : Int)] ya n2 yc) (p := p) (q := q) (r := r) rfl rfl e1 e2 e3
  refine Do_good 16 0 none 0 0 [] (some ⟨P, 0, none⟩) 1 1 [1] none 0 0 [] none 0 0 [] (some ⟨S, 0, none⟩) 1 1 [0] (some ⟨b, off, none⟩) 2 cap (twoV2 da dl dc [(p : Int), (q : Int)] xa n1 xc ea el ec [(q : Int), (r : Int)] ya n2 yc) [(p : Int), (r : Int)] (p * r) (matL xs ys p q r) w (lst_none w) (lst_of hP (Nat.le_refl _) (by omega)) (lst_none w) (lst_none w) (lst_of hS (Nat.le_refl _) (by omega)) (by omega) (by omega) (by omega) (by omega) (by omega) (arrs_two c0 c1 c2 c3 hd he) (by omega) hE hL.symm (by simp [prod]) (matL_length _ _ _ _ _) (matL_bd _ _ _ _ _) ?_
  intro hpos W Z nz cz g hW hg _ _ hrow
  obtain ⟨hp0, hr0⟩ := pos_of_lt_mul hpos
  have hp4 : p ≤ 65536 := Nat.le_trans (Nat.le_mul_of_pos_right p hr0) hn6
  have hr4 : r ≤ 65536 := Nat.le_trans (Nat.le_mul_of_pos_left r hp0) hn6
  have hq4 : q ≤ 65536 := by
    refine Nat.le_trans (Nat.le_mul_of_pos_left q hp0) ?_
    rw [← hn1]; exact hn16
  have hb := lt_of_cell c0
  refine work_dot 0 (.slice none 0 0) (.slice (some ⟨P, 0, none⟩) 1 1) (.slice none 0 0) (.slice none 0 0) (.slice (some ⟨S, 0, none⟩) 1 1) Z nz cz g (p * r) b off cap (.slice da dl dc) (.slice xa n1 xc) (.slice ea el ec) (.slice ya n2 yc) (matL xs ys p q r) W ((hW.cell (p := ⟨b, off, none⟩) (lt_of_cell c0)).trans c0) ((hW.cell (p := ⟨b, off + 1, none⟩) (lt_of_cell c1)).trans c1) ((hW.cell (p := ⟨b, off + 2, none⟩) (lt_of_cell c2)).trans c2) ((hW.cell (p := ⟨b, off + 3, none⟩) (lt_of_cell c3)).trans c3) (by simp at hb; omega) hrow (fun W2 hW2 hrow2 => ?_)
  have hWW := hW.trans (hW2.mono hW.size)
  have key := dot_any 16 0 (.slice none 0 0) (some ⟨P, 0, none⟩) 1 1 [1] none 0 0 [] none 0 0 [] (some ⟨S, 0, none⟩) 1 1 [0] da dl dc [(p : Int), (q : Int)] xa n1 xc xs ea el ec [(q : Int), (r : Int)] ya n2 yc ys (readsV 0 (taken [(p : Int), (q : Int)] [0, 1]) (taken (stepsV [(p : Int), (q : Int)]) [0, 1])) (readsV 0 (taken [(q : Int), (r : Int)] [1, 0]) (taken (stepsV [(q : Int), (r : Int)]) [1, 0])) q p r g (p * r) W2
    (lst_of (hP.below hWW) (Nat.le_refl _) (by omega)) (lst_none W2) (lst_none W2) (lst_of (hS.below hWW) (Nat.le_refl _) (by omega)) (hd.1.below hWW) (he.1.below hWW) (hx.below hWW) (hy.below hWW) hz1 hz2 hn16 hn26 hn6 hB
    ?_ rfl ?_ (by rw [readsA_len, hn1]) (fun i hi => ?_) (by show 0 + 1 + 1 ≤ 6; omega)
    ?_ rfl ?_ (by rw [readsB_len, hn2, Nat.mul_comm]) (fun i hi => ?_) (by show 0 + 1 + 1 ≤ 6; omega)
    (by show (q : Int) * 1 = q; omega) (by show (p : Int) * 1 = p; omega) (by show (r : Int) * 1 = r; omega) hp0 hr0 hq4 hp4 hr4 (fun i hi => ?_) hrow2
  · rw [dot_mat] at key
    exact key
  · show turnE 0 [(p : Int), (q : Int)] (stepsV [(p : Int), (q : Int)]) [0, 1] = 0
    unfold turnE
    rw [if_neg (by rw [wrong_whole hz1]; simp), if_pos]
    show permB [0, 1] 2 = true
    decide
  · show wrongE 0 (taken [(p : Int), (q : Int)] [0, 1]) (taken (stepsV [(p : Int), (q : Int)]) [0, 1]) = 0
    have hw := wrong_whole hz1
    obtain ⟨s, t, e⟩ := two_of_len (stepsV_len [(p : Int), (q : Int)])
    rw [e] at hw ⊢
    exact hw
  · rw [readsA (by rw [← hn1]; exact hi)]; omega
  · show turnE 0 [(q : Int), (r : Int)] (stepsV [(q : Int), (r : Int)]) [1, 0] = 0
    unfold turnE
    rw [if_neg (by rw [wrong_whole hz2]; simp), if_pos]
    show permB [1, 0] 2 = true
    decide
  · show wrongE 0 (taken [(q : Int), (r : Int)] [1, 0]) (taken (stepsV [(q : Int), (r : Int)]) [1, 0]) = 0
    have hw := wrong_whole hz2
    obtain ⟨s, t, e⟩ := two_of_len (stepsV_len [(q : Int), (r : Int)])
    rw [e] at hw ⊢
    exact wrong_swap hw
  · have hi' : i < r * q := by rw [Nat.mul_comm, ← hn2]; exact hi
    have := place_lt hi'
    rw [readsB hi']
    rw [← hn2] at this
    exact ⟨Int.natCast_nonneg _, Int.ofNat_lt.2 this⟩
  · have h1 : i / r < p := div_row hi
    have h2 : i % r < r := Nat.mod_lt _ hr0
    rw [Nat.div_eq_of_lt h1, Nat.zero_mul, Nat.zero_add]
    refine ⟨?_, ?_, by omega⟩
    · rw [hn1]
      have : (i / r + 1) * q ≤ p * q := Nat.mul_le_mul_right _ h1
      rw [Nat.add_mul, Nat.one_mul] at this
      exact this
    · rw [hn2, Nat.mul_comm q r]
      have : (i % r + 1) * q ≤ r * q := Nat.mul_le_mul_right _ h2
      rw [Nat.add_mul, Nat.one_mul] at this
      exact this
theorem Do_turn2 (P : Nat) (b off cap : Nat) (da : Option Addr) (dl dc : Nat) (xa : Option Addr) (n xc : Nat) (xs : List Int) (p q : Nat) (w : World) (hP : Ints w (some ⟨P, 0, none⟩) 2 [1, 0])
    (c0 : w.cell? ⟨b, off, none⟩ = some (.slice da dl dc)) (c1 : w.cell? ⟨b, off + 1, none⟩ = some (.slice xa n xc)) (hd : Lst w da dl dc [(p : Int), (q : Int)]) (hx : Ints w xa n xs) (e1 : arrE [(p : Int), (q : Int)] n = 0) :
    Calls Try.prog 11 #[.agg #[.int .i64 11, .slice none 0 0, .slice (some ⟨P, 0, none⟩) 2 2, .slice none 0 0, .slice none 0 0, .slice none 0 0, .int .i64 0], .slice (some ⟨b, off, none⟩) 1 cap] w fun e w' =>
      (∃ (Z : Option Addr) (nz cz G : Nat), e = .returned (.tuple #[.agg #[.slice Z nz cz, .slice (some ⟨G, 0, none⟩) (q * p) (q * p)], .int .i64 0]) ∧ (Ints w' Z nz [(q : Int), (p : Int)] ∧ nz ≤ cz) ∧ Ints w' (some ⟨G, 0, none⟩) (q * p) (turnL xs p q) ∧ w.heap.size ≤ G) ∧ Below w.heap.size w w' := by
  have hn := flat_len e1
  have hn6 := (arrE_ok e1).2.2
  have hz := (arrE_ok e1).1
  have hb := lt_of_cell c0
  obtain ⟨ht, hE, hL⟩ := ok_turn (v := fun _ => ⟨da, dl, dc, [(p : Int), (q : Int)], xa, n, xc⟩) (p := p) (q := q) rfl e1
  refine Do_good 11 0 none 0 0 [] (some ⟨P, 0, none⟩) 2 2 [1, 0] none 0 0 [] none 0 0 [] none 0 0 [] (some ⟨b, off, none⟩) 1 cap (fun _ => ⟨da, dl, dc, [(p : Int), (q : Int)], xa, n, xc⟩) [(q : Int), (p : Int)] (q * p) (turnL xs p q) w (lst_none w) (lst_of hP (Nat.le_refl _) (by omega)) (lst_none w) (lst_none w) (lst_none w) (by omega) (by omega) (by omega) (by omega) (by omega) (.inr ⟨b, off, rfl, fun j hj => by obtain rfl : j = 0 := by { omega }; exact ⟨c0, c1, hd⟩⟩) (by omega) hE hL.symm (by simp [prod]) (turnL_length _ _ _) (turnL_bd hx.2.2.1 _ _) ?_
  intro hpos W Z nz cz g hW hg _ _ hrow
  have hn0 : 0 < n := by rw [hn, Nat.mul_comm]; exact hpos
  have key := work_look 11 0 (.inr (.inl rfl)) (.slice none 0 0) (.slice (some ⟨P, 0, none⟩) 2 2) (.slice none 0 0) (.slice none 0 0) (.slice none 0 0) Z nz cz g (q * p) b off 1 cap (.slice da dl dc) xa n xc xs (readsV 0 (taken [(p : Int), (q : Int)] [1, 0]) (taken (stepsV [(p : Int), (q : Int)]) [1, 0])) W (by omega) ((hW.cell (p := ⟨b, off, none⟩) (lt_of_cell c0)).trans c0) ((hW.cell (p := ⟨b, off + 1, none⟩) (lt_of_cell c1)).trans c1) (hx.below hW) (fun b' o' e' => by
      obtain ⟨b2, o2, e2, hb2, _⟩ := hx.at hn0
      rw [e'] at e2; cases e2
      omega) hrow (by rw [Nat.mul_comm, ← hn]; omega) (readsB_len p q) (fun i hi => by
      have := place_lt hi
      rw [readsB hi]
      rw [← hn] at this
      exact ⟨Int.natCast_nonneg _, Int.ofNat_lt.2 this⟩) (fun W2 hW2 => lookedAt_gen 11 0 (.slice none 0 0) (.slice (some ⟨P, 0, none⟩) 2 2) (.slice none 0 0) (.slice none 0 0) (.slice none 0 0) da dl dc (.slice xa n xc) 0 (taken [(p : Int), (q : Int)] [1, 0]) (taken (stepsV [(p : Int), (q : Int)]) [1, 0]) W2 (fun W3 hW3 => by
        have h1 := hW.trans (hW2.mono hW.size)
        have h2 := h1.trans (hW3.mono h1.size)
        exact seen11 da dl dc [(p : Int), (q : Int)] (some ⟨P, 0, none⟩) 2 2 [1, 0] W3 (hd.1.below h2) (hP.below h2) hz ht) (by
        have hw := wrong_whole hz
        obtain ⟨s, t, e⟩ := two_of_len (stepsV_len [(p : Int), (q : Int)])
        rw [e] at hw ⊢
        exact wrong_swap hw))
  rw [look_turn] at key
  exact key
end Go.Proofs.Ytdhkglafpjcdhaa.V

/-
  Contracts: adjointlaw2.times, adjointlaw2.one of a Turn, adjointlaw2.alive.
-/
namespace Go.Proofs.Ytdhkglafpjcdhaa.V
open Go.RowKit

/-- One number in a block. -/
theorem ints_one {w : World} {B : Nat} (x : Int) (hx : -9223372036854775808 ≤ x ∧ x ≤ 9223372036854775807) (t : TypeId) (h : w.heap.size = B) : Ints (w.alloc (.cells #[.int .i64 x] t)) (some ⟨B, 0, none⟩) 1 [x] := by
  subst h
  refine ⟨rfl, by omega, by simpa using hx, .inr ⟨_, _, rfl, fun j hj => ?_⟩⟩
  obtain rfl : j = 0 := by omega
  simp

set_option maxRecDepth 100000 in
set_option maxHeartbeats 2000000 in
theorem times_good (da : Option Addr) (dl dc : Nat) (xa : Option Addr) (n1 xc : Nat) (xs : List Int) (ea : Option Addr) (el ec : Nat) (ya : Option Addr) (n2 yc : Nat) (ys : List Int) (p q r : Nat) (w : World)
    (hd : Lst w da dl dc [(p : Int), (q : Int)]) (he : Lst w ea el ec [(q : Int), (r : Int)]) (hx : Ints w xa n1 xs) (hy : Ints w ya n2 ys) (e1 : arrE [(p : Int), (q : Int)] n1 = 0) (e2 : arrE [(q : Int), (r : Int)] n2 = 0) (e3 : sizeE [(p : Int), (r : Int)] = 0) :
    Calls Try.prog 13 #[.agg #[.slice da dl dc, .slice xa n1 xc], .agg #[.slice ea el ec, .slice ya n2 yc]] w fun e w' =>
      (∃ (Z : Option Addr) (nz cz G : Nat), e = .returned (.tuple #[.agg #[.slice Z nz cz, .slice (some ⟨G, 0, none⟩) (p * r) (p * r)], .bool true]) ∧ Lst w' Z nz cz [(p : Int), (r : Int)] ∧ Ints w' (some ⟨G, 0, none⟩) (p * r) (matL xs ys p q r)) ∧ Below w.heap.size w w' := by
  have HB1 := (Below.refl w.heap.size w).alloc (Nat.le_refl _) (.cells #[.slice da dl dc, .slice xa n1 xc] 25)
  have HB2 := HB1.alloc HB1.size (.cells #[.slice ea el ec, .slice ya n2 yc] 25)
  have HB3 := HB2.alloc HB2.size (.cells #[.slice none 0 0, .slice none 0 0] 25)
  have HB4 := HB3.alloc HB3.size (.cells #[.int .i64 1] 3)
  have HB5 := HB4.alloc HB4.size (.cells #[.int .i64 0] 3)
  have HB6 := HB5.alloc HB5.size (.cells #[.slice da dl dc, .slice xa n1 xc, .slice ea el ec, .slice ya n2 yc] 25)
  have HB := hide HB6
  have a1 := ((((ArrAt.new w (.slice da dl dc) (.slice xa n1 xc)).alloc (.cells #[.slice ea el ec, .slice ya n2 yc] 25)).alloc (.cells #[.slice none 0 0, .slice none 0 0] 25)).alloc (.cells #[.int .i64 1] 3)).alloc (.cells #[.int .i64 0] 3)
  have a2 := (((ArrAt.new (w.alloc (.cells #[.slice da dl dc, .slice xa n1 xc] 25)) (.slice ea el ec) (.slice ya n2 yc)).alloc (.cells #[.slice none 0 0, .slice none 0 0] 25)).alloc (.cells #[.int .i64 1] 3)).alloc (.cells #[.int .i64 0] 3)
  have a3 := (((ArrAt.new ((w.alloc (.cells #[.slice da dl dc, .slice xa n1 xc] 25)).alloc (.cells #[.slice ea el ec, .slice ya n2 yc] 25)) (.slice none 0 0) (.slice none 0 0)).alloc (.cells #[.int .i64 1] 3)).alloc (.cells #[.int .i64 0] 3)).alloc (.cells #[.slice da dl dc, .slice xa n1 xc, .slice ea el ec, .slice ya n2 yc] 25)
  simp only [World.size_alloc] at a2 a3
  obtain ⟨⟨p0, p1⟩, _⟩ := a1.cells
  obtain ⟨⟨q0, q1⟩, _⟩ := a2.cells
  have HA3 := hide a3
  have i1 := ((ints_one 1 (by omega) 3 (w := (((w.alloc (.cells #[.slice da dl dc, .slice xa n1 xc] 25)).alloc (.cells #[.slice ea el ec, .slice ya n2 yc] 25)).alloc (.cells #[.slice none 0 0, .slice none 0 0] 25))) (B := w.heap.size + 1 + 1 + 1) (by simp)).below ((Below.refl _ _).alloc (Nat.le_refl _) (.cells #[.int .i64 0] 3))).below ((Below.refl _ _).alloc (Nat.le_refl _) (.cells #[.slice da dl dc, .slice xa n1 xc, .slice ea el ec, .slice ya n2 yc] 25))
  have i0 := (ints_one 0 (by omega) 3 (w := ((((w.alloc (.cells #[.slice da dl dc, .slice xa n1 xc] 25)).alloc (.cells #[.slice ea el ec, .slice ya n2 yc] 25)).alloc (.cells #[.slice none 0 0, .slice none 0 0] 25)).alloc (.cells #[.int .i64 1] 3))) (B := w.heap.size + 1 + 1 + 1 + 1) (by simp)).below ((Below.refl _ _).alloc (Nat.le_refl _) (.cells #[.slice da dl dc, .slice xa n1 xc, .slice ea el ec, .slice ya n2 yc] 25))
  have f4 := FourAt.new (w := (((((w.alloc (.cells #[.slice da dl dc, .slice xa n1 xc] 25)).alloc (.cells #[.slice ea el ec, .slice ya n2 yc] 25)).alloc (.cells #[.slice none 0 0, .slice none 0 0] 25)).alloc (.cells #[.int .i64 1] 3)).alloc (.cells #[.int .i64 0] 3))) (B := w.heap.size + 1 + 1 + 1 + 1 + 1) (.slice da dl dc) (.slice xa n1 xc) (.slice ea el ec) (.slice ya n2 yc) (by simp)
  obtain ⟨c0, c1, c2, c3⟩ := f4.cells
  have HS := hide (Do_mat (w.heap.size + 1 + 1 + 1) (w.heap.size + 1 + 1 + 1 + 1) (w.heap.size + 1 + 1 + 1 + 1 + 1) 0 2 da dl dc xa n1 xc xs ea el ec ya n2 yc ys p q r _ i1 i0 c0 c1 c2 c3 (hd.below HB.out) (he.below HB.out) (hx.below HB.out) (hy.below HB.out) e1 e2 e3)
  clear a1 a2 a3 f4 HB1 HB2 HB3 HB4 HB5 HB6 c0 c1 c2 c3 i1 i0 hd he hx hy
  go_enter Try.func13, Try.ntmps13
  go_wp2_with (go_at_call 11; refine HS.out.mono ?_; rintro e w1 ⟨⟨Z, nz, cz, G, rfl, ⟨hi1, hnc⟩, hi2, hg⟩, hb⟩; have hnz := hi1.1; have HI1 := hide (lst_of hi1 hnc (by rw [← hnz]; show 0 < 2; omega)); have HI2 := hide hi2; have HB7 := hide (Below.on HB.out hb); have HA7 := hide (HA3.out.below hb); have HA8 := hide (HA7.out.alloc (.cells #[.slice Z nz cz, .slice (some ⟨G, 0, none⟩) (p * r) (p * r)] 25)); have HB8 := hide (HB7.out.alloc HB7.out.size (.cells #[.slice Z nz cz, .slice (some ⟨G, 0, none⟩) (p * r) (p * r)] 25)); obtain ⟨⟨a0, a1⟩, fa0, fa1⟩ := HA8.out.cells; clear hi1 hi2 hb p0 p1 q0 q1 hnz hg)
  obtain ⟨⟨u0, u1⟩, _⟩ := (HA8.out.put (.slice Z nz cz) (.slice (some ⟨G, 0, none⟩) (p * r) (p * r))).cells
  have hl := HA7.out.lt
  have HBF := hide ((HB8.out.setCell (p := ⟨w.heap.size + 1 + 1, 0, none⟩) (by simp; omega) (.slice Z nz cz)).setCell (p := ⟨w.heap.size + 1 + 1, 1, none⟩) (by simp; omega) (.slice (some ⟨G, 0, none⟩) (p * r) (p * r)))
  refine bodyPost_ret (v := .tuple #[.agg #[.slice Z nz cz, .slice (some ⟨G, 0, none⟩) (p * r) (p * r)], .bool true]) (by simp [results, Try.results13, go_sem, u0, u1]) rfl ⟨⟨Z, nz, cz, G, rfl, ⟨?_, HI1.out.2⟩, ?_⟩, HBF.out⟩
  · exact ints_put_arr (HI1.out.1.below ((Below.refl _ _).alloc (Nat.le_refl _) _)) HA8.out (fun _ _ e => by cases e) (fun _ _ e => by cases e) _ _
  · exact ints_put_arr (HI2.out.below ((Below.refl _ _).alloc (Nat.le_refl _) _)) HA8.out (fun _ _ e => by cases e) (fun _ _ e => by cases e) _ _

set_option maxRecDepth 100000 in
set_option maxHeartbeats 2000000 in
theorem times_bad (da : Option Addr) (dl dc : Nat) (ds : List Int) (xa : Option Addr) (n1 xc : Nat) (ea : Option Addr) (el ec : Nat) (es : List Int) (ya : Option Addr) (n2 yc : Nat) (w : World)
    (hd : Lst w da dl dc ds) (he : Lst w ea el ec es) (hE : doE 16 [] [1] [] [] [0] 2 (twoV2 da dl dc ds xa n1 xc ea el ec es ya n2 yc) ≠ 0) :
    Calls Try.prog 13 #[.agg #[.slice da dl dc, .slice xa n1 xc], .agg #[.slice ea el ec, .slice ya n2 yc]] w fun e w' =>
      e = .returned (.tuple #[.agg #[.slice none 0 0, .slice none 0 0], .bool false]) ∧ Below w.heap.size w w' := by
  have HB1 := (Below.refl w.heap.size w).alloc (Nat.le_refl _) (.cells #[.slice da dl dc, .slice xa n1 xc] 25)
  have HB2 := HB1.alloc HB1.size (.cells #[.slice ea el ec, .slice ya n2 yc] 25)
  have HB3 := HB2.alloc HB2.size (.cells #[.slice none 0 0, .slice none 0 0] 25)
  have HB4 := HB3.alloc HB3.size (.cells #[.int .i64 1] 3)
  have HB5 := HB4.alloc HB4.size (.cells #[.int .i64 0] 3)
  have HB6 := HB5.alloc HB5.size (.cells #[.slice da dl dc, .slice xa n1 xc, .slice ea el ec, .slice ya n2 yc] 25)
  have HB := hide HB6
  have a1 := ((((ArrAt.new w (.slice da dl dc) (.slice xa n1 xc)).alloc (.cells #[.slice ea el ec, .slice ya n2 yc] 25)).alloc (.cells #[.slice none 0 0, .slice none 0 0] 25)).alloc (.cells #[.int .i64 1] 3)).alloc (.cells #[.int .i64 0] 3)
  have a2 := (((ArrAt.new (w.alloc (.cells #[.slice da dl dc, .slice xa n1 xc] 25)) (.slice ea el ec) (.slice ya n2 yc)).alloc (.cells #[.slice none 0 0, .slice none 0 0] 25)).alloc (.cells #[.int .i64 1] 3)).alloc (.cells #[.int .i64 0] 3)
  have a3 := (((ArrAt.new ((w.alloc (.cells #[.slice da dl dc, .slice xa n1 xc] 25)).alloc (.cells #[.slice ea el ec, .slice ya n2 yc] 25)) (.slice none 0 0) (.slice none 0 0)).alloc (.cells #[.int .i64 1] 3)).alloc (.cells #[.int .i64 0] 3)).alloc (.cells #[.slice da dl dc, .slice xa n1 xc, .slice ea el ec, .slice ya n2 yc] 25)
  simp only [World.size_alloc] at a2 a3
  obtain ⟨⟨p0, p1⟩, _⟩ := a1.cells
  obtain ⟨⟨q0, q1⟩, _⟩ := a2.cells
  have HA3 := hide a3
  have i1 := ((ints_one 1 (by omega) 3 (w := (((w.alloc (.cells #[.slice da dl dc, .slice xa n1 xc] 25)).alloc (.cells #[.slice ea el ec, .slice ya n2 yc] 25)).alloc (.cells #[.slice none 0 0, .slice none 0 0] 25))) (B := w.heap.size + 1 + 1 + 1) (by simp)).below ((Below.refl _ _).alloc (Nat.le_refl _) (.cells #[.int .i64 0] 3))).below ((Below.refl _ _).alloc (Nat.le_refl _) (.cells #[.slice da dl dc, .slice xa n1 xc, .slice ea el ec, .slice ya n2 yc] 25))
  have i0 := (ints_one 0 (by omega) 3 (w := ((((w.alloc (.cells #[.slice da dl dc, .slice xa n1 xc] 25)).alloc (.cells #[.slice ea el ec, .slice ya n2 yc] 25)).alloc (.cells #[.slice none 0 0, .slice none 0 0] 25)).alloc (.cells #[.int .i64 1] 3))) (B := w.heap.size + 1 + 1 + 1 + 1) (by simp)).below ((Below.refl _ _).alloc (Nat.le_refl _) (.cells #[.slice da dl dc, .slice xa n1 xc, .slice ea el ec, .slice ya n2 yc] 25))
  have f4 := FourAt.new (w := (((((w.alloc (.cells #[.slice da dl dc, .slice xa n1 xc] 25)).alloc (.cells #[.slice ea el ec, .slice ya n2 yc] 25)).alloc (.cells #[.slice none 0 0, .slice none 0 0] 25)).alloc (.cells #[.int .i64 1] 3)).alloc (.cells #[.int .i64 0] 3))) (B := w.heap.size + 1 + 1 + 1 + 1 + 1) (.slice da dl dc) (.slice xa n1 xc) (.slice ea el ec) (.slice ya n2 yc) (by simp)
  obtain ⟨c0, c1, c2, c3⟩ := f4.cells
  have HS := hide (Do_bad 16 0 none 0 0 [] (some ⟨w.heap.size + 1 + 1 + 1, 0, none⟩) 1 1 [1] none 0 0 [] none 0 0 [] (some ⟨w.heap.size + 1 + 1 + 1 + 1, 0, none⟩) 1 1 [0] (some ⟨w.heap.size + 1 + 1 + 1 + 1 + 1, 0, none⟩) 2 2 (twoV2 da dl dc ds xa n1 xc ea el ec es ya n2 yc) _ (lst_none _) (lst_of i1 (Nat.le_refl _) (by omega)) (lst_none _) (lst_none _) (lst_of i0 (Nat.le_refl _) (by omega)) (by omega) (by omega) (by omega) (by omega) (by omega) (arrs_two c0 c1 c2 c3 (hd.below HB.out) (he.below HB.out)) (by omega) hE)
  obtain ⟨E, hEE⟩ : ∃ E, doE 16 [] [1] [] [] [0] 2 (twoV2 da dl dc ds xa n1 xc ea el ec es ya n2 yc) = E := ⟨_, rfl⟩
  rw [hEE] at HS hE
  have hEb : (E == 0) = false := by simp [hE]
  clear hE hEE
  clear a1 a2 a3 f4 HB1 HB2 HB3 HB4 HB5 HB6 c0 c1 c2 c3 i1 i0 hd he
  go_enter Try.func13, Try.ntmps13
  go_wp2_with (go_at_call 11; refine HS.out.mono ?_; rintro e w1 ⟨rfl, hb⟩; have HB7 := hide (Below.on HB.out hb); have HA7 := hide (HA3.out.below hb); have HA8 := hide (HA7.out.alloc (.cells #[.slice none 0 0, .slice none 0 0] 25)); have HB8 := hide (HB7.out.alloc HB7.out.size (.cells #[.slice none 0 0, .slice none 0 0] 25)); obtain ⟨⟨a0, a1⟩, fa0, fa1⟩ := HA8.out.cells; clear hb p0 p1 q0 q1)
  obtain ⟨⟨u0, u1⟩, _⟩ := (HA8.out.put (.slice none 0 0) (.slice none 0 0)).cells
  have hl := HA7.out.lt
  have HBF := hide ((HB8.out.setCell (p := ⟨w.heap.size + 1 + 1, 0, none⟩) (by simp; omega) (.slice none 0 0)).setCell (p := ⟨w.heap.size + 1 + 1, 1, none⟩) (by simp; omega) (.slice none 0 0))
  exact bodyPost_ret (v := .tuple #[.agg #[.slice none 0 0, .slice none 0 0], .bool false]) (by simp [results, Try.results13, go_sem, u0, u1]) rfl ⟨rfl, HBF.out⟩

set_option maxRecDepth 100000 in
set_option maxHeartbeats 2000000 in
theorem one_turn (P : Nat) (da : Option Addr) (dl dc : Nat) (xa : Option Addr) (n1 xc : Nat) (xs : List Int) (p q : Nat) (w : World) (hP : Ints w (some ⟨P, 0, none⟩) 2 [1, 0])
    (hd : Lst w da dl dc [(p : Int), (q : Int)]) (hx : Ints w xa n1 xs) (e1 : arrE [(p : Int), (q : Int)] n1 = 0) :
    Calls Try.prog 14 #[.agg #[.int .i64 11, .slice none 0 0, .slice (some ⟨P, 0, none⟩) 2 2, .slice none 0 0, .slice none 0 0, .slice none 0 0, .int .i64 0], .agg #[.slice da dl dc, .slice xa n1 xc]] w fun e w' =>
      (∃ (Z : Option Addr) (nz cz G : Nat), e = .returned (.tuple #[.agg #[.slice Z nz cz, .slice (some ⟨G, 0, none⟩) (q * p) (q * p)], .bool true]) ∧ Lst w' Z nz cz [(q : Int), (p : Int)] ∧ Ints w' (some ⟨G, 0, none⟩) (q * p) (turnL xs p q)) ∧ Below w.heap.size w w' := by
  have HB1 := (Below.refl w.heap.size w).alloc (Nat.le_refl _) (.cells #[.int .i64 11, .slice none 0 0, .slice (some ⟨P, 0, none⟩) 2 2, .slice none 0 0, .slice none 0 0, .slice none 0 0, .int .i64 0] 33)
  have HB2 := HB1.alloc HB1.size (.cells #[.slice da dl dc, .slice xa n1 xc] 25)
  have HB3 := HB2.alloc HB2.size (.cells #[.slice none 0 0, .slice none 0 0] 25)
  have HB4 := HB3.alloc HB3.size (.cells #[.slice da dl dc, .slice xa n1 xc] 25)
  have HB := hide HB4
  have b1 := ((OpAt.new w 11 (.slice none 0 0) (.slice (some ⟨P, 0, none⟩) 2 2) (.slice none 0 0) (.slice none 0 0) (.slice none 0 0) 0).alloc (.cells #[.slice da dl dc, .slice xa n1 xc] 25)).alloc (.cells #[.slice none 0 0, .slice none 0 0] 25)
  have a1 := (ArrAt.new (w.alloc (.cells #[.int .i64 11, .slice none 0 0, .slice (some ⟨P, 0, none⟩) 2 2, .slice none 0 0, .slice none 0 0, .slice none 0 0, .int .i64 0] 33)) (.slice da dl dc) (.slice xa n1 xc)).alloc (.cells #[.slice none 0 0, .slice none 0 0] 25)
  have a3 := (ArrAt.new ((w.alloc (.cells #[.int .i64 11, .slice none 0 0, .slice (some ⟨P, 0, none⟩) 2 2, .slice none 0 0, .slice none 0 0, .slice none 0 0, .int .i64 0] 33)).alloc (.cells #[.slice da dl dc, .slice xa n1 xc] 25)) (.slice none 0 0) (.slice none 0 0)).alloc (.cells #[.slice da dl dc, .slice xa n1 xc] 25)
  have a4 := ArrAt.new (((w.alloc (.cells #[.int .i64 11, .slice none 0 0, .slice (some ⟨P, 0, none⟩) 2 2, .slice none 0 0, .slice none 0 0, .slice none 0 0, .int .i64 0] 33)).alloc (.cells #[.slice da dl dc, .slice xa n1 xc] 25)).alloc (.cells #[.slice none 0 0, .slice none 0 0] 25)) (.slice da dl dc) (.slice xa n1 xc)
  simp only [World.size_alloc] at a1 a3 a4
  obtain ⟨o0, o1, o2, o3, o4, o5, o6⟩ := b1.cells
  obtain ⟨⟨p0, p1⟩, _⟩ := a1.cells
  obtain ⟨⟨c0, c1⟩, _⟩ := a4.cells
  have HA3 := hide a3
  have HS := hide (Do_turn2 P (w.heap.size + 1 + 1 + 1) 0 1 da dl dc xa n1 xc xs p q _ (hP.below HB.out) c0 c1 (hd.below HB.out) (hx.below HB.out) e1)
  clear b1 a1 a3 a4 HB1 HB2 HB3 HB4 c0 c1 hd hx hP
  go_enter Try.func14, Try.ntmps14
  go_wp2_with (go_at_call 11; refine HS.out.mono ?_; rintro e w1 ⟨⟨Z, nz, cz, G, rfl, ⟨hi1, hnc⟩, hi2, hg⟩, hb⟩; have hnz := hi1.1; have HI1 := hide (lst_of hi1 hnc (by rw [← hnz]; show 0 < 2; omega)); have HI2 := hide hi2; have HB7 := hide (Below.on HB.out hb); have HA7 := hide (HA3.out.below hb); have HA8 := hide (HA7.out.alloc (.cells #[.slice Z nz cz, .slice (some ⟨G, 0, none⟩) (q * p) (q * p)] 25)); have HB8 := hide (HB7.out.alloc HB7.out.size (.cells #[.slice Z nz cz, .slice (some ⟨G, 0, none⟩) (q * p) (q * p)] 25)); obtain ⟨⟨a0, a1⟩, fa0, fa1⟩ := HA8.out.cells; clear hi1 hi2 hb p0 p1 o0 o1 o2 o3 o4 o5 o6 hnz hg)
  obtain ⟨⟨u0, u1⟩, _⟩ := (HA8.out.put (.slice Z nz cz) (.slice (some ⟨G, 0, none⟩) (q * p) (q * p))).cells
  have hl := HA7.out.lt
  have HBF := hide ((HB8.out.setCell (p := ⟨w.heap.size + 1 + 1, 0, none⟩) (by simp; omega) (.slice Z nz cz)).setCell (p := ⟨w.heap.size + 1 + 1, 1, none⟩) (by simp; omega) (.slice (some ⟨G, 0, none⟩) (q * p) (q * p)))
  refine bodyPost_ret (v := .tuple #[.agg #[.slice Z nz cz, .slice (some ⟨G, 0, none⟩) (q * p) (q * p)], .bool true]) (by simp [results, Try.results14, go_sem, u0, u1]) rfl ⟨⟨Z, nz, cz, G, rfl, ⟨?_, HI1.out.2⟩, ?_⟩, HBF.out⟩
  · exact ints_put_arr (HI1.out.1.below ((Below.refl _ _).alloc (Nat.le_refl _) _)) HA8.out (fun _ _ e => by cases e) (fun _ _ e => by cases e) _ _
  · exact ints_put_arr (HI2.out.below ((Below.refl _ _).alloc (Nat.le_refl _) _)) HA8.out (fun _ _ e => by cases e) (fun _ _ e => by cases e) _ _
end Go.Proofs.Ytdhkglafpjcdhaa.V

/-
  Contract: adjointlaw2.alive.
-/
namespace Go.Proofs.Ytdhkglafpjcdhaa.V
open Go.RowKit

set_option maxRecDepth 100000 in
set_option maxHeartbeats 2000000 in
theorem alive2_any (w : World) : Calls Try.prog 9 #[] w fun e w' => e = .returned (.bool true) ∧ Below w.heap.size w w' := by
  have HB1 := (Below.refl w.heap.size w).alloc (Nat.le_refl _) (.cells #[.int .i64 2] 2)
  have HB2 := HB1.alloc HB1.size (.cells #[.int .i64 3] 2)
  have HB3 := HB2.alloc HB2.size (.cells #[.slice none 0 0, .slice (some ⟨w.heap.size, 0, none⟩) 1 1, .slice none 0 0, .slice (some ⟨w.heap.size + 1, 0, none⟩) 1 1] 25)
  have HB := hide HB3
  have i2 := ((ints_one 2 (by omega) 2 (w := w) (B := w.heap.size) rfl).below ((Below.refl _ _).alloc (Nat.le_refl _) (.cells #[.int .i64 3] 2))).below ((Below.refl _ _).alloc (Nat.le_refl _) (.cells #[.slice none 0 0, .slice (some ⟨w.heap.size, 0, none⟩) 1 1, .slice none 0 0, .slice (some ⟨w.heap.size + 1, 0, none⟩) 1 1] 25))
  have i3 := (ints_one 3 (by omega) 2 (w := (w.alloc (.cells #[.int .i64 2] 2))) (B := w.heap.size + 1) (by simp)).below ((Below.refl _ _).alloc (Nat.le_refl _) (.cells #[.slice none 0 0, .slice (some ⟨w.heap.size, 0, none⟩) 1 1, .slice none 0 0, .slice (some ⟨w.heap.size + 1, 0, none⟩) 1 1] 25))
  have f4 := FourAt.new (w := ((w.alloc (.cells #[.int .i64 2] 2)).alloc (.cells #[.int .i64 3] 2))) (B := w.heap.size + 1 + 1) (.slice none 0 0) (.slice (some ⟨w.heap.size, 0, none⟩) 1 1) (.slice none 0 0) (.slice (some ⟨w.heap.size + 1, 0, none⟩) 1 1) (by simp)
  obtain ⟨c0, c1, c2, c3⟩ := f4.cells
  have hS := Do_two 3 (.inl rfl) (w.heap.size + 1 + 1) 0 2 none 0 0 none 0 0 [] 1 (some ⟨w.heap.size, 0, none⟩) 1 [2] (some ⟨w.heap.size + 1, 0, none⟩) 1 [3] _ c0 c1 c2 c3 (ints_nil _) (ints_nil _) i2 i3 (by decide)
  have ht : twoL 3 [2] [3] 1 = [5] := by simp [twoL, twoV, List.range_succ, w64, wrap_in 5 (by omega) (by omega)]
  rw [ht] at hS
  have HS := hide hS
  clear i2 i3 f4 c0 c1 c2 c3 HB1 HB2 HB3 hS ht
  go_enter Try.func9, Try.ntmps9
  go_wp2_with (go_at_call 11; refine HS.out.mono ?_; rintro e w1 ⟨⟨g, G, rfl, hi1, hi2, hg1, hg2⟩, hb⟩; obtain ⟨b5, o5, e5, _, hc5⟩ := hi2.at (by omega); cases e5; have c5 := alloc_cell (o := .cells #[.slice (some ⟨g, 0, none⟩) 0 0, .slice (some ⟨G, 0, none⟩) 1 1] 25) (hc5 0 (by omega)); simp only [Nat.add_zero, List.getElem?_cons_zero, Option.getD_some] at c5; have HB5 := hide (Below.on HB.out hb); obtain ⟨⟨a0, a1⟩, _⟩ := (ArrAt.new w1 (.slice (some ⟨g, 0, none⟩) 0 0) (.slice (some ⟨G, 0, none⟩) 1 1)).cells; clear hi1 hi2 hb hc5 hg1 hg2)
  all_goals go_ret
  all_goals exact ⟨rfl, HB5.out.alloc HB5.out.size _⟩
end Go.Proofs.Ytdhkglafpjcdhaa.V
