/-
  Contract: adjointlaw2.one, whatever is asked, where Do tells no error.
-/
import Derived.Test.YtoagnhppjlcpkaaGreatQJLinMath
import Derived.Test.YtoagnhppjlcpkaaGreatQJJoinMath
import Derived.Test.YtoagnhppjlcpkaaGreatQJRAllC
import Derived.ArgAppend
import Derived.Laws.AppendOwnNone
import Derived.Test.YtoagnhppjlcpkaaGreatQGLapse
namespace Go.Proofs.YtoagnhppjlcpkaaGreat.V
set_option maxRecDepth 20000
open Go.RowKit

set_option maxRecDepth 100000 in
set_option maxHeartbeats 2000000 in
theorem one_gen (k x : Int) (E1 E2 E3 E4 E5 : Value) (da : Option Addr) (dl dc : Nat) (xa : Option Addr) (n1 xc : Nat) (L F : List Int) (N : Nat) (w : World)
    (hS : ∀ (W : World) (b : Nat), Below w.heap.size w W → ArrAt W b (.slice da dl dc) (.slice xa n1 xc) → Calls Tryz.prog 7 #[.agg #[.int .i64 k, E1, E2, E3, E4, E5, .int .i64 x], .slice (some ⟨b, 0, none⟩) 1 1] W fun e W' => DoesTo W L F N e W' ∧ Below W.heap.size W W') :
    Calls Tryz.prog 11 #[.agg #[.int .i64 k, E1, E2, E3, E4, E5, .int .i64 x], .agg #[.slice da dl dc, .slice xa n1 xc]] w fun e w' =>
      (∃ (Z : Option Addr) (nz cz G : Nat), e = .returned (.tuple #[.agg #[.slice Z nz cz, .slice (some ⟨G, 0, none⟩) N N], .bool true]) ∧ (Ints w' Z nz L ∧ nz ≤ cz) ∧ Ints w' (some ⟨G, 0, none⟩) N F) ∧ Below w.heap.size w w' := by
  have HB1 := (Below.refl w.heap.size w).alloc (Nat.le_refl _) (.cells #[.int .i64 k, E1, E2, E3, E4, E5, .int .i64 x] 24)
  have HB2 := HB1.alloc HB1.size (.cells #[.slice da dl dc, .slice xa n1 xc] 28)
  have HB3 := HB2.alloc HB2.size (.cells #[.slice none 0 0, .slice none 0 0] 28)
  have HB4 := HB3.alloc HB3.size (.cells #[.slice da dl dc, .slice xa n1 xc] 28)
  have HB := hide HB4
  have b1 := ((OpAt.new w k E1 E2 E3 E4 E5 x).alloc (.cells #[.slice da dl dc, .slice xa n1 xc] 28)).alloc (.cells #[.slice none 0 0, .slice none 0 0] 28)
  have a1 := (ArrAt.new (w.alloc (.cells #[.int .i64 k, E1, E2, E3, E4, E5, .int .i64 x] 24)) (.slice da dl dc) (.slice xa n1 xc)).alloc (.cells #[.slice none 0 0, .slice none 0 0] 28)
  have a3 := (ArrAt.new ((w.alloc (.cells #[.int .i64 k, E1, E2, E3, E4, E5, .int .i64 x] 24)).alloc (.cells #[.slice da dl dc, .slice xa n1 xc] 28)) (.slice none 0 0) (.slice none 0 0)).alloc (.cells #[.slice da dl dc, .slice xa n1 xc] 28)
  have a4 := ArrAt.new (((w.alloc (.cells #[.int .i64 k, E1, E2, E3, E4, E5, .int .i64 x] 24)).alloc (.cells #[.slice da dl dc, .slice xa n1 xc] 28)).alloc (.cells #[.slice none 0 0, .slice none 0 0] 28)) (.slice da dl dc) (.slice xa n1 xc)
  simp only [World.size_alloc] at a1 a3 a4
  obtain ⟨o0, o1, o2, o3, o4, o5, o6⟩ := b1.cells
  obtain ⟨⟨p0, p1⟩, _⟩ := a1.cells
  have HA3 := hide a3
  have HS := hide (hS _ (w.heap.size + 1 + 1 + 1) HB.out a4)
  clear b1 a1 a3 a4 HB1 HB2 HB3 HB4 hS
  go_enter Tryz.func11, Tryz.ntmps11
  go_wp2_with (go_at_call 7; refine HS.out.mono ?_; rintro e w1 ⟨⟨Z, nz, cz, G, rfl, ⟨hi1, hnc⟩, hi2, hg⟩, hb⟩; have HI1 := hide hi1; have HNC := hide hnc; have HI2 := hide hi2; have HB7 := hide (Below.on HB.out hb); have HA7 := hide (HA3.out.below hb); have HA8 := hide (HA7.out.alloc (.cells #[.slice Z nz cz, .slice (some ⟨G, 0, none⟩) N N] 28)); have HB8 := hide (HB7.out.alloc HB7.out.size (.cells #[.slice Z nz cz, .slice (some ⟨G, 0, none⟩) N N] 28)); obtain ⟨⟨a0, a1⟩, fa0, fa1⟩ := HA8.out.cells; clear hi1 hi2 hnc hb p0 p1 o0 o1 o2 o3 o4 o5 o6 hg)
  obtain ⟨⟨u0, u1⟩, _⟩ := (HA8.out.put (.slice Z nz cz) (.slice (some ⟨G, 0, none⟩) N N)).cells
  have hl := HA7.out.lt
  have HBF := hide ((HB8.out.setCell (p := ⟨w.heap.size + 1 + 1, 0, none⟩) (by simp; omega) (.slice Z nz cz)).setCell (p := ⟨w.heap.size + 1 + 1, 1, none⟩) (by simp; omega) (.slice (some ⟨G, 0, none⟩) N N))
  refine bodyPost_ret (v := .tuple #[.agg #[.slice Z nz cz, .slice (some ⟨G, 0, none⟩) N N], .bool true]) (by simp [results, Tryz.results11, go_sem, u0, u1]) rfl ⟨⟨Z, nz, cz, G, rfl, ⟨?_, HNC.out⟩, ?_⟩, HBF.out⟩
  · exact ints_put_arr (HI1.out.below ((Below.refl _ _).alloc (Nat.le_refl _) _)) HA8.out (fun _ _ e => by cases e) (fun _ _ e => by cases e) _ _
  · exact ints_put_arr (HI2.out.below ((Below.refl _ _).alloc (Nat.le_refl _) _)) HA8.out (fun _ _ e => by cases e) (fun _ _ e => by cases e) _ _
end Go.Proofs.YtoagnhppjlcpkaaGreat.V

/-
  Plain mathematics: what was joined is cut out again as it was.
-/
namespace Go.Proofs.YtoagnhppjlcpkaaGreat.V
set_option maxRecDepth 20000
open Go.RowKit

/-- The Cut that takes array s out of a Join. -/
def cutLo (n p b : Nat) : List Int := (List.replicate n 0).set p (b : Int)
def cutHi (L : List Int) (p b : Nat) : List Int := L.set p (b : Int)
theorem cutLo_at (n p b k : Nat) (hk : k < n) : (cutLo n p b)[k]?.getD 0 = if k = p then (b : Int) else 0 := by
  unfold cutLo
  rw [List.getElem?_set]
  by_cases c : p = k
  · subst c; rw [if_pos rfl, if_pos (by simpa using hk), if_pos rfl]; rfl
  · rw [if_neg c, if_neg (fun h => c h.symm)]; simp [hk]
theorem cutHi_at (L : List Int) (p b k : Nat) (hk : k < L.length) : (cutHi L p b)[k]?.getD 0 = if k = p then (b : Int) else L[k]?.getD 0 := by
  unfold cutHi
  rw [List.getElem?_set]
  by_cases c : p = k
  · subst c; rw [if_pos rfl, if_pos hk, if_pos rfl]; rfl
  · rw [if_neg c, if_neg (fun h => c h.symm)]
theorem ones_at (n k : Nat) (hk : k < n) : (List.replicate n (1 : Int))[k]?.getD 0 = 1 := by simp [hk]
theorem Joined.len {v : Nat → ArrV} {m p : Nat} {L f rs : List Int} {K : Nat → Nat} {fr B : Nat} (h : Joined v m p L f rs K fr B) : L.length = p + (1 + rs.length) ∧ ∀ s, s < m → (v s).ds.length = L.length := by
  have e : L.length = p + (1 + rs.length) := by rw [h.made, List.length_append, List.length_append, h.lenf]; rfl
  refine ⟨e, fun s hs => ?_⟩
  rw [e, h.dims s hs, List.length_append, List.length_append, h.lenf]; rfl
/-- The dimensions of a part are the Join's but for one. -/
theorem Joined.dim {v : Nat → ArrV} {m p : Nat} {L f rs : List Int} {K : Nat → Nat} {fr B : Nat} (h : Joined v m p L f rs K fr B) {s : Nat} (hs : s < m) {k : Nat} (_hk : k < L.length) : (v s).ds[k]?.getD 0 = if k = p then (K s : Int) else L[k]?.getD 0 := by
  have e := h.len.1
  have e2 := h.len.2 s hs
  have hlf := h.lenf
  rw [h.dims s hs, h.made]
  by_cases c : k = p
  · subst c
    rw [if_pos rfl, List.getElem?_append_right (by omega), hlf]
    simp
  · rw [if_neg c]
    by_cases c2 : k < p
    · rw [List.getElem?_append_left (by omega), List.getElem?_append_left (by omega)]
    · have ex : ∀ y : Int, (f ++ ([y] ++ rs))[k]? = ([y] ++ rs)[k - p]? := fun y => by rw [List.getElem?_append_right (by omega), hlf]
      rw [ex, ex]
      obtain ⟨d, hd⟩ : ∃ d, k - p = d + 1 := ⟨k - p - 1, by omega⟩
      rw [hd]
      rfl
theorem Joined.at {v : Nat → ArrV} {m p : Nat} {L f rs : List Int} {K : Nat → Nat} {fr B : Nat} (h : Joined v m p L f rs K fr B) : L[p]?.getD 0 = ((beg K m : Nat) : Int) := by
  rw [h.made, List.getElem?_append_right (by have := h.lenf; omega), h.lenf]
  simp
theorem cuts_dims {v : Nat → ArrV} {m p : Nat} {L f rs : List Int} {K : Nat → Nat} {fr B : Nat} (h : Joined v m p L f rs K fr B) {s : Nat} (hs : s < m) :
    cutD L (cutLo L.length p (beg K s)) (cutHi L p (beg K s + K s)) (List.replicate L.length 1) = (v s).ds ∧ lensB L.length (cutLo L.length p (beg K s)) (cutHi L p (beg K s + K s)) (List.replicate L.length 1) = true ∧ anyBad L (cutLo L.length p (beg K s)) (cutHi L p (beg K s + K s)) (List.replicate L.length 1) = false := by
  have hnn := size_nn h.size
  refine ⟨?_, lensB_true.2 ⟨by simp [cutLo], by simp [cutHi], by simp⟩, ?_⟩
  · refine List.ext_getElem? fun k => ?_
    by_cases hk : k < L.length
    · have h1 := cutD_getD L (cutLo L.length p (beg K s)) (cutHi L p (beg K s + K s)) (List.replicate L.length 1) k hk
      have h2 := h.dim hs hk
      rw [cutLo_at _ _ _ _ hk, cutHi_at _ _ _ _ hk, ones_at _ _ hk, keptN] at h1
      have hl1 : k < (cutD L (cutLo L.length p (beg K s)) (cutHi L p (beg K s + K s)) (List.replicate L.length 1)).length := by rw [cutD_length]; exact hk
      have hl2 : k < (v s).ds.length := by rw [h.len.2 s hs]; exact hk
      rw [List.getElem?_eq_getElem hl1] at h1 ⊢
      rw [List.getElem?_eq_getElem hl2] at h2 ⊢
      simp only [Option.getD_some] at h1 h2
      rw [h1, h2]
      by_cases c : k = p
      · subst c
        simp only [if_true]
        congr 1
        rw [Int.ediv_one]; push_cast; omega
      · simp only [if_neg c]
        congr 1
        rw [Int.ediv_one]; omega
    · rw [List.getElem?_eq_none (by rw [cutD_length]; omega), List.getElem?_eq_none (by rw [h.len.2 s hs]; omega)]
  · unfold anyBad
    rw [List.any_eq_false]
    intro k hk
    have hk := List.mem_range.1 hk
    unfold badAt
    rw [cutLo_at _ _ _ _ hk, cutHi_at _ _ _ _ hk, ones_at _ _ hk]
    have hx := hnn _ (mem_getD L k hk)
    by_cases c : k = p
    · subst c
      have := h.at
      have hb : beg K s + K s ≤ beg K m := beg_mono K (s := s + 1) (by omega)
      simp only [if_true]
      rw [this]
      simp [badCut]
      omega
    · simp only [if_neg c]
      simp [badCut]
      omega
theorem cuts_doE {v : Nat → ArrV} {m p : Nat} {L f rs : List Int} {K : Nat → Nat} {fr B : Nat} (h : Joined v m p L f rs K fr B) {s : Nat} (hs : s < m) :
    doE 13 [] [] (cutLo L.length p (beg K s)) (cutHi L p (beg K s + K s)) (List.replicate L.length 1) 1 (oneV L (prod L).toNat) = 0 := by
  obtain ⟨a1, a2, a3⟩ := cuts_dims h hs
  have hc := cut_whole h.size a2 a3
  have h1 : takesE 13 1 = 0 := by kernel_rfl
  have h2 : arrsE (oneV L (prod L).toNat) 1 = 0 := arrsE_all 1 (fun j hj => (arrE_of h.size).1)
  have h3 : dimsOf 1 (oneV L (prod L).toNat) = [L] := rfl
  have h5 : shapeP 13 [] [] (cutLo L.length p (beg K s)) (cutHi L p (beg K s + K s)) (List.replicate L.length 1) [L] = ((v s).ds, 0) := by
    have h4 : shapeP 13 [] [] (cutLo L.length p (beg K s)) (cutHi L p (beg K s + K s)) (List.replicate L.length 1) [L] = (okL (cutE 0 L (stepsV L) (cutLo L.length p (beg K s)) (cutHi L p (beg K s + K s)) (List.replicate L.length 1)) (cutD L (cutLo L.length p (beg K s)) (cutHi L p (beg K s + K s)) (List.replicate L.length 1)), cutE 0 L (stepsV L) (cutLo L.length p (beg K s)) (cutHi L p (beg K s + K s)) (List.replicate L.length 1)) := rfl
    rw [h4, hc, a1]; rfl
  have h6 : sizesE [L] = 0 := sizesE_all _ (fun t ht => by
    match t, ht with
    | 0, _ => exact h.size)
  unfold doE
  rw [if_neg (by rw [h1]; simp), if_neg (by rw [h2]; simp), h3]
  unfold dimsP
  rw [if_neg (by simp [h1]), if_neg (by rw [h6]; simp), h5, if_neg (by simp), if_neg (by rw [(arrE_ok (h.right s hs)).1]; simp)]
/-- Only one array holds a place. -/
theorem beg_one {K : Nat → Nat} {s t n : Nat} (h1 : beg K s ≤ n) (h2 : n < beg K s + K s) (h3 : beg K t ≤ n) (h4 : n < beg K t + K t) : s = t := by
  rcases Nat.lt_trichotomy s t with h | h | h
  · have : beg K s + K s ≤ beg K t := beg_mono K (s := s + 1) (by omega)
    omega
  · exact h
  · have : beg K t + K t ≤ beg K s := beg_mono K (s := t + 1) (by omega)
    omega
/-- WHAT WAS JOINED IS CUT OUT AGAIN AS IT WAS. -/
theorem cuts_back {v : Nat → ArrV} {X : Nat → List Int} {m p : Nat} {L f rs : List Int} {K : Nat → Nat} {fr B : Nat} (h : Joined v m p L f rs K fr B) {s : Nat} (hs : s < m) (hX : (X s).length = (v s).xl) :
    lookL (joinL X K B m (prod L).toNat) (readsV (cutAcc 0 (stepsV L) (cutLo L.length p (beg K s)) L.length) (cutD L (cutLo L.length p (beg K s)) (cutHi L p (beg K s + K s)) (List.replicate L.length 1)) (cutS (stepsV L) (List.replicate L.length 1))) = X s := by
  obtain ⟨a1, a2, a3⟩ := cuts_dims h hs
  have hzs := (arrE_ok (h.right s hs)).1
  have hxn := (arrE_ok (h.right s hs)).2.1
  have hthr := idx_cut (by rw [a1]; exact hzs) a3
  rw [a1] at hthr ⊢
  have hlen : (readsV (cutAcc 0 (stepsV L) (cutLo L.length p (beg K s)) L.length) (v s).ds (cutS (stepsV L) (List.replicate L.length 1))).length = (prod (v s).ds).toNat := readsV_length _ _ _
  have hpl : p < L.length := by have := h.len.1; omega
  refine list_at_ext (by rw [lookL_length, hlen, hX]; omega) fun i hi => ?_
  have hi : i < (prod (v s).ds).toNat := by omega
  rw [lookL_at _ _ _ (by rw [hlen]; exact hi)]
  obtain ⟨q0, q1, q2, q3⟩ := idx_read hthr h.size i hi
  obtain ⟨t1, t2, _⟩ := hthr i hi
  obtain ⟨q', r1, r2, r3⟩ := place_nat h.size t1 t2
  have eq' : q' = q0 := Int.ofNat.inj (r1.symm.trans q2)
  subst eq'
  have q3' : (readsV (cutAcc 0 (stepsV L) (cutLo L.length p (beg K s)) L.length) (v s).ds (cutS (stepsV L) (List.replicate L.length 1)))[i]?.getD 0 = (q' : Int) := q3
  rw [q3', Int.toNat_natCast, joinL_at _ _ _ _ _ _ q1]
  obtain ⟨S0, n0, q, g1, g2, g3, g4, g5, g6, g7, g8⟩ := join_entry h q1
  rw [g8 X]
  have hdp := dig_place hzs hi
  have hyk : ∀ k, k < L.length → (dig L q')[k]?.getD 0 = (if k = p then ((beg K s : Nat) : Int) else 0) + (dig (v s).ds i)[k]?.getD 0 := fun k hk => by
    rw [r3]
    simp only [List.getElem?_map, List.getElem?_range hk, Option.map_some, Option.getD_some]
    rw [cutLo_at _ _ _ _ hk, ones_at _ _ hk, Int.mul_one]
  have hyp := hyk p hpl
  rw [if_pos rfl, g2] at hyp
  have hds : (v s).ds.length = L.length := h.len.2 s hs
  have hb := hdp.2 p (by omega)
  rw [h.dim hs hpl, if_pos rfl] at hb
  obtain rfl : S0 = s := beg_one g3 g4 (by omega) (by omega)
  have hset : (dig L q').set p ((n0 - beg K S0 : Nat) : Int) = dig (v S0).ds i := by
    refine list_at_ext (by rw [List.length_set, dig_length, dig_length, hds]) fun k hk => ?_
    rw [dig_length, hds] at hk
    rw [List.getElem?_set]
    by_cases c : p = k
    · subst c
      rw [if_pos rfl, if_pos (by rw [dig_length]; exact hk)]
      simp only [Option.getD_some]
      omega
    · rw [if_neg c, hyk k hk, if_neg (fun h => c h.symm)]; omega
  rw [hset, hdp.1] at g7
  have : q = i := by omega
  rw [this]
end Go.Proofs.YtoagnhppjlcpkaaGreat.V

/-
  ArrayRows: where the document's Do tells an error.
-/
namespace Go.Proofs.YtoagnhppjlcpkaaGreat.V
set_option maxRecDepth 20000
open Go.RowKit

end Go.Proofs.YtoagnhppjlcpkaaGreat.V

/-
  ArrayCuts: where an error is told.
-/
namespace Go.Proofs.YtoagnhppjlcpkaaGreat.V
set_option maxRecDepth 20000
open Go.RowKit

set_option maxRecDepth 100000 in
set_option maxHeartbeats 2000000 in
theorem cuts_err (A : Option Addr) (m cap : Nat) (v : Nat → ArrV) (at0 : Int) (w : World) (hat : -9223372036854775808 ≤ at0 ∧ at0 ≤ 9223372036854775807) (hA : Arrs w A m v) (hm : m ≤ 1048576) (hE : doE 17 [] [at0] [] [] [] m v ≠ 0) :
    Calls Tryz.prog 6 #[.slice A m cap, .int .i64 at0] w fun e w' => e = .returned (.bool true) ∧ Below w.heap.size w w' := by
  have HA := hide hA
  have HE := hide hE
  have hEb : (doE 17 [] [at0] [] [] [] m v != 0) = true := by simp [hE]
  clear hA hE
  go_enter Tryz.func6, Tryz.ntmps6
  go_wp2_with (first
    | (go_at_call 8; have hb4 := HB3.out.alloc HB3.out.size (.cells #[.int .i64 at0] 3); refine (rDo_bad 17 0 none 0 0 [] (some ⟨w1.heap.size, 0, none⟩) 1 1 [at0] none 0 0 [] none 0 0 [] none 0 0 [] A m cap v _ (lst_none _) ⟨ints_one at0 hat _ rfl, by omega, fun e => by cases e⟩ (lst_none _) (lst_none _) (lst_none _) (by omega) (by omega) (by omega) (by omega) (by omega) (HA.out.below hb4) hm HE.out).mono ?_; rintro e w2 ⟨rfl, hb⟩; have HB5 := hide (Below.on hb4 hb); clear hb4 hb)
    | (go_at_call 10; refine (alive2_any _).mono ?_; rintro e w1 ⟨rfl, hb⟩; have HB3 := hide hb; clear hb))
  go_ret
  exact ⟨rfl, HB5.out.alloc HB5.out.size _⟩
end Go.Proofs.YtoagnhppjlcpkaaGreat.V

/-
  What the law ArrayLinear needs besides: append onto one array, one0, linear.
-/
namespace Go.Proofs.YtoagnhppjlcpkaaGreat.V
set_option maxRecDepth 20000
open Go Go.RowKit

/-- More arrays lie behind the first one. -/
def MoreAt (W : World) (B q : Nat) (vm : Nat → ArrV) : Prop := ∀ j, j < q → W.cell? ⟨B, 2 + j * 2, none⟩ = some (vm j).d ∧ W.cell? ⟨B, 2 + j * 2 + 1, none⟩ = some (vm j).x
theorem MoreAt.below {W W' : World} {B q : Nat} {vm : Nat → ArrV} (h : MoreAt W B q vm) (hb : Below W.heap.size W W') : MoreAt W' B q vm := fun j hj => ⟨(hb.cell (p := ⟨B, 2 + j * 2, none⟩) (lt_of_cell (h j hj).1)).trans (h j hj).1, (hb.cell (p := ⟨B, 2 + j * 2 + 1, none⟩) (lt_of_cell (h j hj).2)).trans (h j hj).2⟩
end Go.Proofs.YtoagnhppjlcpkaaGreat.V

/-
  A list made in a drawn region: the fact, and append onto an empty list.
-/
namespace Go.Proofs.YtoagnhppjlcpkaaGreat.V
set_option maxRecDepth 20000
open Go.RowKit

/-- A list of one's own, at the beginning of its block. -/
def NewL (N : Nat) (xs : List Int) (v : Value) (w : World) : Prop := ∃ (G c : Nat) (f : Nat → Value), v = .slice (some ⟨G, 0, none⟩) xs.length c ∧ xs.length ≤ c ∧ N ≤ G ∧ w.rowIs G 3 c f ∧ ∀ j, j < xs.length → f j = .int .i64 (xs[j]?.getD 0)
def fNewL (N : Nat) (xs : List Int) : Fact := ⟨NewL N xs, true⟩
theorem fNewL_good (N : Nat) (xs : List Int) : (fNewL N xs).Good := ⟨fun _ _ _ ⟨G, c, f, h1, h2, h3, h4, h5⟩ hb => ⟨G, c, f, h1, h2, h3, h4.of_block (hb.block G h4.lt), h5⟩, fun _ v w b ⟨G, c, f, h1, _, _, h4, _⟩ hb => by
  subst h1
  simp [blk] at hb
  rw [← hb]
  exact h4.lt⟩
/-- append([]int{}, list...). -/
theorem wp_append_fresh {w : World} {o : Oper} {a : Act} {K : Act → World → Prop} {Q : Exit → Act → World → Prop} (s x : Operand) (ho : o.op = .call { callee := .builtin .append, args := #[s, x], argTypes := #[22, 22] })
    (N B q c : Nat) (X : Option Addr) (ys : List Int) (hs : a.eval s = .slice (some ⟨B, 0, none⟩) 0 0) (hx : a.eval x = .slice X q c) (hI : Ints w X q ys) (hq : 0 < q) (hq6 : q ≤ 1048576) (hN : N ≤ w.heap.size)
    (h : ∀ v w', NewL N ys v w' → Below w.heap.size w w' → (∀ b, blk v = some b → w.heap.size ≤ b) → K (a.put o.dst v) w') : o.wp Tryz.prog a w K Q := by
  obtain ⟨i, hi1, hz, hsz, hby⟩ := info_parts info_int
  obtain ⟨b, off, rfl, _, hc⟩ := hI.at hq
  have hl := hI.1
  obtain ⟨v', w', hr, r1, r2⟩ := run_append_arg_grows (P := Tryz.prog) w 22 o.type 3 i (.int .i64 0) 1 8 Tryz.underlying22 hi1 hz hsz hby rfl (by omega) ⟨B, 0, none⟩ 0 0 [] rfl (fun j u hj => by simp at hj) ⟨b, off, none⟩ q c (ys.map (Value.int .i64)) (by simp [hl]) (fun j u hj => by
      have hjl : j < q := by have := (List.getElem?_eq_some_iff.1 hj).1; simpa [hl] using this
      have h3 : u = .int .i64 (ys[j]?.getD 0) := by
        have : j < ys.length := by rw [hl]; exact hjl
        simp [this] at hj ⊢
        exact hj.symm
      rw [h3, Addr.add_lit]
      exact hc j hjl) (by omega) (by unfold maxLen; omega) (by omega)
  have hb : Below w.heap.size w w' := (Below.refl _ w).grown r2 (Nat.le_refl _) (fun k hk => by cases hk)
  obtain ⟨g, cap, rfl, hg1, hg2⟩ := r1.form (by omega)
  rcases r1.2 with ⟨hv, _⟩ | ⟨g', cap', cur, hv, _, hgc, _, _, hcs, htk⟩
  · cases hv
  · cases hv
    unfold Oper.wp
    simp [execOp, ho, resolve, invoke, builtin, hs, hx, hr, Result.andThen]
    have hcell : ∀ j, j < q → w'.cell? ⟨g, j, none⟩ = some (.int .i64 (ys[j]?.getD 0)) := fun j hj => by
      have e : w'.cell? ⟨g, j, none⟩ = ([] ++ ys.map (Value.int .i64))[j]? := by
        rw [← htk, List.getElem?_take_of_lt (by omega), Array.getElem?_toList]
        simp [World.cell?, hgc]
      have hj2 : j < ys.length := by omega
      rw [e]
      simp [hj2]
    refine h _ _ ⟨g, cap, fun j => cur[j]?.getD undef, by rw [hl], by omega, by omega, ⟨cur, hgc, by omega, fun j hj => ?_⟩, fun j hj => ?_⟩ hb (fun b hb => by simp [blk] at hb; omega)
    · have : j < cur.size := by omega
      simp [this]
    · have hc1 := hcell j (by omega)
      simp [World.cell?, hgc] at hc1
      simp [hc1]
theorem newL_of_row {w : World} {G n N : Nat} (h : w.rowIs G 3 n (fun _ => .int .i64 0)) (hN : N ≤ G) : NewL N (List.replicate n 0) (.slice (some ⟨G, 0, none⟩) n n) w :=
  ⟨G, n, _, by simp, by simp, hN, h, fun j _ => by rw [replicate_zero_at]⟩
/-- An empty list. -/
def fNo : Fact := ⟨fun v _ => ∃ B, v = .slice (some ⟨B, 0, none⟩) 0 0, false⟩
theorem fNo_good : fNo.Good := ⟨fun _ _ _ h _ => h, fun h => by cases h⟩
/-- What a row of one's own holds, as a list. -/
theorem lst_of_rowC {G c : Nat} {f : Nat → Value} {w : World} (xs : List Int) (h : w.rowIs G 3 c f) (hl : xs.length ≤ c) (hf : ∀ j, j < xs.length → f j = .int .i64 (xs[j]?.getD 0)) (hb : ∀ x ∈ xs, -9223372036854775808 ≤ x ∧ x ≤ 9223372036854775807) (hm : xs.length ≤ 9223372036854775807) : Lst w (some ⟨G, 0, none⟩) xs.length c xs :=
  ⟨⟨rfl, hm, hb, .inr ⟨G, 0, rfl, fun j hj => by rw [Nat.zero_add, ← hf j hj]; exact h.cell (by omega)⟩⟩, hl, fun e => by cases e⟩
end Go.Proofs.YtoagnhppjlcpkaaGreat.V

/-
  ArrayCuts: the lists that a part is cut out by.
-/
namespace Go.Proofs.YtoagnhppjlcpkaaGreat.V
set_option maxRecDepth 20000
open Go.RowKit

theorem cut_lists {W : World} {G3 G7 G11 c3 c7 c11 nz p n0 n1 : Nat} {F3 F7 F11 : Nat → Value} {L : List Int} {v0 v1 : Int} (h3 : W.rowIs G3 3 c3 F3) (h7 : W.rowIs G7 3 c7 F7) (h11 : W.rowIs G11 3 c11 F11)
    (k3 : ∀ j, j < nz → F3 j = .int .i64 ((List.replicate nz (0 : Int))[j]?.getD 0)) (k7 : ∀ j, j < nz → F7 j = .int .i64 (L[j]?.getD 0)) (k11 : ∀ j, j < nz → F11 j = .int .i64 1) (hL : L.length = nz) (l3 : nz ≤ c3) (l7 : nz ≤ c7) (l11 : nz ≤ c11) (hn1 : G3 ≠ G7) (hn2 : G3 ≠ G11) (hn3 : G7 ≠ G11)
    (hLb : ∀ x ∈ L, -9223372036854775808 ≤ x ∧ x ≤ 9223372036854775807) (e0 : v0 = (n0 : Int)) (e1 : v1 = (n1 : Int)) (hb1 : n1 ≤ 9223372036854775807) (hb0 : n0 ≤ 9223372036854775807) (hz : nz ≤ 6) :
    Lst ((W.setCell ⟨G3, p, none⟩ (.int .i64 v0)).setCell ⟨G7, p, none⟩ (.int .i64 v1)) (some ⟨G3, 0, none⟩) nz c3 (cutLo nz p n0) ∧ Lst ((W.setCell ⟨G3, p, none⟩ (.int .i64 v0)).setCell ⟨G7, p, none⟩ (.int .i64 v1)) (some ⟨G7, 0, none⟩) nz c7 (cutHi L p n1) ∧ Lst ((W.setCell ⟨G3, p, none⟩ (.int .i64 v0)).setCell ⟨G7, p, none⟩ (.int .i64 v1)) (some ⟨G11, 0, none⟩) nz c11 (List.replicate nz 1) := by
  subst e0
  subst e1
  have q1 : (cutLo nz p n0).length = nz := by simp [cutLo]
  have q2 : (cutHi L p n1).length = nz := by simp [cutHi, hL]
  have r3 := (h3.set p (.int .i64 (n0 : Int))).setOther (a := ⟨G7, p, none⟩) hn1 (.int .i64 (n1 : Int))
  have r7 := (h7.setOther (a := ⟨G3, p, none⟩) (Ne.symm hn1) (.int .i64 (n0 : Int))).set p (.int .i64 (n1 : Int))
  have r11 := (h11.setOther (a := ⟨G3, p, none⟩) (Ne.symm hn2) (.int .i64 (n0 : Int))).setOther (a := ⟨G7, p, none⟩) (Ne.symm hn3) (.int .i64 (n1 : Int))
  have a3 := lst_of_rowC (cutLo nz p n0) r3 (by omega) (fun j hj => by
    rw [q1] at hj
    rw [cutLo_at nz p n0 j hj]
    by_cases e : j = p
    · simp [e]
    · simp only [if_neg e]
      rw [k3 j hj]; simp [hj]) (fun x hx => by
    unfold cutLo at hx
    rcases List.mem_or_eq_of_mem_set hx with h | h
    · have := List.eq_of_mem_replicate h; omega
    · omega) (by omega)
  have a7 := lst_of_rowC (cutHi L p n1) r7 (by omega) (fun j hj => by
    rw [q2] at hj
    rw [cutHi_at L p n1 j (by omega)]
    by_cases e : j = p
    · simp [e]
    · simp only [if_neg e]
      exact k7 j hj) (fun x hx => by
    unfold cutHi at hx
    rcases List.mem_or_eq_of_mem_set hx with h | h
    · exact hLb x h
    · omega) (by omega)
  have a11 := lst_of_rowC (List.replicate nz (1 : Int)) r11 (by simpa using l11) (fun j hj => by
    have hj' : j < nz := by simpa using hj
    rw [k11 j hj', ones_at nz j hj']) (fun x hx => by have := List.eq_of_mem_replicate hx; omega) (by simp; omega)
  rw [q1] at a3
  rw [q2] at a7
  rw [List.length_replicate] at a11
  exact ⟨a3, a7, a11⟩
end Go.Proofs.YtoagnhppjlcpkaaGreat.V

/-
  A region that draws its order, all of whose operations make facts; some of them hand on the value of an earlier one.
-/
namespace Go.Proofs.YtoagnhppjlcpkaaGreat.V
set_option maxRecDepth 20000
open Go Go.RowKit

section
variable {P : Program} {Q : Exit → Act → World → Prop} {ops : List Oper}

/-- Which operation's value an operation hands on. -/
def cpAt (cs : List (Option Nat)) (i : Nat) : Option Nat := cs[i]?.getD none
def copyOk (ops : List Oper) (cs : List (Option Nat)) : Bool := (List.range ops.length).all fun i =>
  match cpAt cs i with
  | none => true
  | some k => decide (k < i) && (ops[i]?.map fun o => hasEdge o k).getD false

structure CInv (ops : List Oper) (F : Nat → Value → World → Prop) (mk : Nat → Bool) (cp : Nat → Option Nat) (a0 : Act) (w0 : World) (listed : Array Bool) (a : Act) (w : World) : Prop where
  inv : FInv ops ops.length F mk a0 w0 listed a w
  copy : ∀ i k, i < ops.length → cp i = some k → listed.getD i false = true → listed.getD k false = true ∧ a.tmps.getD (dstAt ops i) undef = a.tmps.getD (dstAt ops k) undef

theorem any_copies {a0 : Act} {w0 : World} (F : Nat → Value → World → Prop) (mk : Nat → Bool) (cp : Nat → Option Nat) (ok : FOk ops ops.length) (hcp : ∀ i k o, cp i = some k → ops[i]? = some o → k < i ∧ hasEdge o k = true) (hts : ∀ j, j < ops.length → dstAt ops j < a0.tmps.size)
    (hQ : ∀ ch (a a' : Act) w', a.defers = a'.defers → Q (.panic ch) a w' → Q (.panic ch) a' w')
    (hF : ∀ i v w w', i < ops.length → F i v w → Below w.heap.size w w' → F i v w')
    (hlt : ∀ i v w b, i < ops.length → mk i = true → F i v w → blk v = some b → b < w.heap.size)
    (hstep : ∀ i o, i < ops.length → ops[i]? = some o → ∀ (u : Nat → Value) (w : World), Below w0.heap.size w0 w → (∀ j, j < i → hasEdge o j = true → F j (u j) w) →
      o.wp P (putAll ops u i a0) w (fun a' w' => a'.defers = a0.defers ∧ (F i (a'.tmps.getD (dstAt ops i) undef) w' ∧ ∀ k, cp i = some k → a'.tmps.getD (dstAt ops i) undef = u k) ∧ Below w.heap.size w w' ∧ (mk i = true → ∀ b, blk (a'.tmps.getD (dstAt ops i) undef) = some b → w.heap.size ≤ b)) Q)
    (hend : ∀ (u : Nat → Value) (w : World), Below w0.heap.size w0 w → (∀ i, i < ops.length → F i (u i) w) → (∀ i j, i < ops.length → j < ops.length → i ≠ j → mk i = true → mk j = true → ∀ b, blk (u i) = some b → blk (u j) ≠ some b) → (∀ i k, i < ops.length → cp i = some k → u i = u k) → Q .normal (putAll ops u ops.length a0) w) :
    ∀ (fuel : Nat) (listed : Array Bool) (a : Act) (w : World), listed.size = ops.length → Shutt .any ops.toArray listed → left listed ops.length ≤ fuel → CInv ops F mk cp a0 w0 listed a w → wpAny P .any ops.toArray Q fuel listed a w := by
  have fin : ∀ (fuel : Nat) (listed : Array Bool) (a : Act) (w : World), listed.size = ops.length → left listed ops.length = 0 → CInv ops F mk cp a0 w0 listed a w → wpAny P .any ops.toArray Q fuel listed a w := by
    intro fuel listed a w hsz hz hc
    have hall := left_zero listed ops.length hz
    have hi := hc.inv
    have hae : a = putAll ops (fun j => a.tmps.getD (dstAt ops j) undef) ops.length a0 := fact_end ok hts hi.defs hi.size (fun t ht => hi.far t (fun j hj _ => ht j hj))
    rw [hae]
    exact UptoW.done ops.length (Nat.le_refl _) (hend _ w hi.below (fun i hiM => hi.fact i hiM (hall i hiM)) (fun i j h1 h2 h3 h4 h5 => hi.pair i j h1 h2 h3 (hall i h1) (hall j h2) h4 h5) (fun i k h1 h2 => (hc.copy i k h1 h2 (hall i h1)).2)) fuel listed hsz (fun j hj => ⟨fun _ => hj, fun _ => hall j hj⟩) (by omega)
  intro fuel
  induction fuel with
  | zero => intro listed a w hsz _ hle hc; exact fin 0 listed a w hsz (by omega) hc
  | succ fuel ih =>
    intro listed a w hsz hsh hle hc
    have hi := hc.inv
    have hgt : ∀ j, j < ops.length → (listed.getD j true = false ↔ listed.getD j false = false) := fun j hj => by simp [hsz, hj]
    by_cases hz : left listed ops.length = 0
    · exact fin _ listed a w hsz hz hc
    · have hmin : ∀ k, k ≤ ops.length → left listed k = 0 ∨ ∃ j, j < k ∧ listed.getD j false = false ∧ ∀ i, i < j → listed.getD i false = true := by
        intro k
        induction k with
        | zero => intro _; exact .inl rfl
        | succ k ihk =>
          intro hk
          rcases ihk (by omega) with h | ⟨j, hj, h⟩
          · cases hb : listed.getD k false with
            | true => exact .inl (by rw [left, h, hb]; simp)
            | false => exact .inr ⟨k, by omega, hb, fun i hi => left_zero listed k h i hi⟩
          · exact .inr ⟨j, by omega, h⟩
      obtain ⟨j0, hj0, hf0, hb0⟩ := (hmin ops.length (Nat.le_refl _)).resolve_left hz
      refine ⟨fun hre => ?_, fun i hir => ?_⟩
      · exfalso
        have : j0 ∈ Region.ready .any ops.toArray listed := by
          rw [mem_ready]
          refine ⟨(hgt j0 (by omega)).2 hf0, ops[j0]'(by omega), by simp, fun e he hbd => hb0 _ (back_of ok.back j0 _ (List.getElem?_eq_getElem (by omega)) e he hbd)⟩
        rw [hre] at this
        cases this
      · obtain ⟨hun, o, ho, hr⟩ := mem_ready.1 hir
        have ho' : ops[i]? = some o := by simpa using ho
        have hil := (List.getElem?_eq_some_iff.1 ho').1
        have hun' := (hgt i hil).1 hun
        have hiM := hil
        obtain ⟨hg, hp⟩ := ok.bare i o hiM ho'
        have hns : ∀ cs b, o.op ≠ .select cs b := fun cs b e => by rw [e] at hp; simp [plainOp] at hp
        have hod := ok.dsts i o hiM ho'
        have hedge : ∀ j, hasEdge o j = true → listed.getD j false = true := fun j hed => by
          obtain ⟨e, he, hbd, hon⟩ := edge_of hed
          have := hr e he hbd
          rw [hon] at this
          exact this
        unfold wpOp
        simp only [ho]
        rw [if_pos (by simp [Region.wanted, hg])]
        refine .inl ?_
        have hev : execOp a.eval o = execOp (putAll ops (fun j => a.tmps.getD (dstAt ops j) undef) i a0).eval o := by
          refine execOp_congr o hns fun x hx => ?_
          cases x <;> try rfl
          rename_i t
          show a.tmps.getD t undef = (putAll ops (fun j => a.tmps.getD (dstAt ops j) undef) i a0).tmps.getD t undef
          by_cases hex : ∃ j, j < ops.length ∧ dstAt ops j = t
          · obtain ⟨j, hj, rfl⟩ := hex
            obtain ⟨hji, _⟩ := ok.data j i o hj hiM ho' hx
            rw [putAll_at ok _ a0 hts j i hji (by omega)]
          · rw [putAll_far _ _ _ _ (fun j hj e => hex ⟨j, by omega, e⟩), hi.far t (fun j hj _ e => hex ⟨j, hj, e⟩)]
        have hs := hstep i o hiM ho' (fun j => a.tmps.getD (dstAt ops j) undef) w hi.below (fun j hji hed => hi.fact j (by omega) (hedge j hed))
        refine Oper.wp_mono ?_ (wp_act (K := fun v w' => (F i v w' ∧ ∀ k, cp i = some k → v = a.tmps.getD (dstAt ops k) undef) ∧ Below w.heap.size w w' ∧ (mk i = true → ∀ b, blk v = some b → w.heap.size ≤ b)) hod (by rw [putAll_size]; exact hts i hiM) (putAll_defs _ _ _) hev (fun ch w' h => hQ ch _ a w' (by rw [putAll_defs]; exact hi.defs.symm) h) hs)
        rintro a' w' ⟨v, rfl, ⟨hFi, hcpi⟩, hbe, hmk⟩
        have hget : (a.put (some (dstAt ops i)) v).tmps.getD (dstAt ops i) undef = v := by
          have := hts i hiM
          simp [Act.put, hi.size, this]
        have hli : ∀ j, i ≠ j → (listed.setIfInBounds i true).getD j false = listed.getD j false := fun j hj => getD_set_ne false hj
        have hii : (listed.setIfInBounds i true).getD i false = true := by simp [hsz, hil]
        have hgj : ∀ j, j < ops.length → i ≠ j → (a.put (some (dstAt ops i)) v).tmps.getD (dstAt ops j) undef = a.tmps.getD (dstAt ops j) undef := fun j hj hne => put_getD_ne _ _ _ _ (ok.apart i j hiM hj hne)
        refine ih _ _ _ (by simp [hsz]) (hsh.more hir) (by have := left_set listed i (by omega) hun' ops.length hiM; omega) ⟨⟨?_, ?_, ?_, ?_, ?_, ?_⟩, ?_⟩
        · rw [put_defs]; exact hi.defs
        · rw [put_size]; exact hi.size
        · intro t ht
          rw [put_getD_ne _ _ _ _ (ht i hiM hii)]
          refine hi.far t (fun j hj hl => ht j hj ?_)
          by_cases e : i = j
          · subst e; exact hii
          · rw [hli j e]; exact hl
        · exact Below.on hi.below hbe
        · intro j hj hl
          by_cases e : i = j
          · subst e; rw [hget]; exact hFi
          · rw [hgj j hj e]
            rw [hli j e] at hl
            exact hF j _ _ _ hj (hi.fact j hj hl) hbe
        · intro p q hp hq hne hlp hlq hmp hmq b hb
          by_cases e1 : i = p
          · subst e1
            rw [hget] at hb
            rw [hgj q hq hne]
            rw [hli q hne] at hlq
            intro hb2
            have h1 := hmk hmp b hb
            have h2 := hlt q _ _ b hq hmq (hi.fact q hq hlq) hb2
            omega
          · rw [hgj p hp e1] at hb
            rw [hli p e1] at hlp
            by_cases e2 : i = q
            · subst e2
              rw [hget]
              intro hb2
              have h1 := hmk hmq b hb2
              have h2 := hlt p _ _ b hp hmp (hi.fact p hp hlp) hb
              omega
            · rw [hgj q hq e2]
              rw [hli q e2] at hlq
              exact hi.pair p q hp hq hne hlp hlq hmp hmq b hb
        · intro j k hj hjk hl
          by_cases e : i = j
          · subst e
            obtain ⟨hki, hed⟩ := hcp i k o hjk ho'
            have hlk := hedge k hed
            refine ⟨by rw [hli k (by omega)]; exact hlk, ?_⟩
            rw [hget, hgj k (by omega) (by omega)]
            exact hcpi k hjk
          · rw [hli j e] at hl
            obtain ⟨h1, h2⟩ := hc.copy j k hj hjk hl
            have hik : i ≠ k := fun e => by subst e; rw [hun'] at h1; cases h1
            obtain ⟨hkj, _⟩ := hcp j k _ hjk (List.getElem?_eq_getElem hj)
            refine ⟨by rw [hli k hik]; exact h1, ?_⟩
            rw [hgj j hj e, hgj k (by omega) hik]
            exact h2

/-- Each operation makes its fact of those that it waits for, or hands on a value. -/
def MadeC (P : Program) (Q : Exit → Act → World → Prop) (fs : List Fact) (cs : List (Option Nat)) (w0 : World) : Nat → List Oper → ((Nat → Value) → Act) → Prop
  | _, [], _ => True
  | i, o :: r, A => (∀ (u : Nat → Value) (w : World), Below w0.heap.size w0 w → (∀ j, j < i → hasEdge o j = true → (factAt fs j).p (u j) w) →
      o.wp P (A u) w (fun a' w' => ∃ v, a' = (A u).put o.dst v ∧ ((factAt fs i).p v w' ∧ ∀ k, cpAt cs i = some k → v = u k) ∧ Below w.heap.size w w' ∧ ((factAt fs i).new = true → ∀ b, blk v = some b → w.heap.size ≤ b)) Q) ∧
    MadeC P Q fs cs w0 (i + 1) r (fun u => (A u).put o.dst (u i))
theorem madeC_at {M : Nat} (ok : FOk ops M) {fs : List Fact} {cs : List (Option Nat)} {w0 : World} {a0 : Act} (hts : ∀ j, j < M → dstAt ops j < a0.tmps.size) : ∀ (l : List Oper) (i : Nat) (A : (Nat → Value) → Act), i + l.length ≤ M → (∀ j, j < l.length → l[j]? = ops[i + j]?) → (∀ u, A u = putAll ops u i a0) → MadeC P Q fs cs w0 i l A →
    ∀ k o, i ≤ k → k < i + l.length → ops[k]? = some o → ∀ (u : Nat → Value) (w : World), Below w0.heap.size w0 w → (∀ j, j < k → hasEdge o j = true → (factAt fs j).p (u j) w) →
      o.wp P (putAll ops u k a0) w (fun a' w' => a'.defers = a0.defers ∧ ((factAt fs k).p (a'.tmps.getD (dstAt ops k) undef) w' ∧ ∀ q, cpAt cs k = some q → a'.tmps.getD (dstAt ops k) undef = u q) ∧ Below w.heap.size w w' ∧ ((factAt fs k).new = true → ∀ b, blk (a'.tmps.getD (dstAt ops k) undef) = some b → w.heap.size ≤ b)) Q
  | [], i, A, _, _, _, _, k, o, h1, h2, _ => by simp at h2; omega
  | o' :: r, i, A, hi, hl, hA, hM, k, o, h1, h2, ho => by
    have h0 := hl 0 (by simp)
    simp only [List.getElem?_cons_zero, Nat.add_zero] at h0
    simp only [List.length_cons] at hi h2
    by_cases e : k = i
    · subst e
      rw [ho] at h0
      obtain rfl := Option.some.inj h0
      intro u w hb hd
      have := hM.1 u w hb hd
      rw [hA u] at this
      refine Oper.wp_mono ?_ this
      rintro a' w' ⟨v, rfl, q1, q2, q3⟩
      have hg : ((putAll ops u k a0).put o'.dst v).tmps.getD (dstAt ops k) undef = v := by
        rw [ok.dsts k o' (by omega) ho]
        have := hts k (by omega)
        simp [Act.put, putAll_size, this]
      rw [hg, put_defs, putAll_defs]
      exact ⟨rfl, q1, q2, q3⟩
    · refine madeC_at ok hts r (i + 1) _ (by omega) (fun j hj => ?_) (fun u => ?_) hM.2 k o (by omega) (by omega) ho
      · have := hl (j + 1) (by simp; omega)
        rw [List.getElem?_cons_succ] at this
        rw [this]; congr 1; omega
      · rw [hA u, putAll, ok.dsts i o' (by omega) h0.symm]

/-- **The region's law.** -/
theorem region_copies {id : Nat} {a0 : Act} {w0 : World} (M : Nat) (fs : List Fact) (cs : List (Option Nat)) (hm : P.follows .mixedOrders = true) (hM : ops.length = M) (hok : baseOk ops ops.length = true) (hco : copyOk ops cs = true) (hts : ((List.range ops.length).all fun j => decide (dstAt ops j < a0.tmps.size)) = true)
    (hQ : ∀ ch (a a' : Act) w', a.defers = a'.defers → Q (.panic ch) a w' → Q (.panic ch) a' w') (hgood : Goods fs)
    (hstep : MadeC P Q fs cs w0 0 ops (fun _ => a0))
    (hend : ∀ (u : Nat → Value) (w : World), Below w0.heap.size w0 w → (∀ i, i < M → (factAt fs i).p (u i) w) → (∀ i j, i < M → j < M → i ≠ j → (factAt fs i).new = true → (factAt fs j).new = true → ∀ b, blk (u i) = some b → blk (u j) ≠ some b) → (∀ i k, i < M → cpAt cs i = some k → u i = u k) → Q .normal (putOps u 0 ops a0) w) :
    (Code.region id ops.toArray true).wp P Q a0 w0 := by
  subst hM
  have ok := fok_of hok
  have hts' : ∀ j, j < ops.length → dstAt ops j < a0.tmps.size := fun j hj => by rw [List.all_eq_true] at hts; simpa using hts j (by simpa using hj)
  have hcp : ∀ i k o, cpAt cs i = some k → ops[i]? = some o → k < i ∧ hasEdge o k = true := by
    intro i k o hc ho
    unfold copyOk at hco
    rw [List.all_eq_true] at hco
    have := hco i (by simpa using (List.getElem?_eq_some_iff.1 ho).1)
    rw [hc, ho] at this
    simpa using this
  have htk : ∀ j, j < ops.length → ops[j]? = ops[0 + j]? := fun j _ => by rw [Nat.zero_add]
  refine wp_region_any hm ?_
  refine any_copies (w0 := w0) (fun i => (factAt fs i).p) (fun i => (factAt fs i).new) (cpAt cs) ok hcp hts' hQ (fun i v w w' _ h hb => (goods_at fs i hgood).1 v w w' h hb) (fun i v w b _ hk h hb => (goods_at fs i hgood).2 hk v w b h hb) (fun i o hi ho u w hb hd => ?_) (fun u w hb hf hp hc => ?_) _ _ _ _ (by simp) (by simpa using Shutt.none) ?_ ⟨⟨rfl, rfl, fun _ _ => rfl, (Below.refl _ _).drew, fun j _ h => ?_, fun i j _ _ _ h => ?_⟩, fun i k _ _ h => ?_⟩
  · exact madeC_at ok hts' ops 0 (fun _ => a0) (by omega) htk (fun _ => rfl) hstep i o (by omega) (by omega) ho u w hb hd
  · have := putAll_ops ok u a0 ops 0 (by omega) htk
    rw [Nat.zero_add] at this
    rw [← this]
    exact hend u w hb hf hp hc
  · have := left_le (Array.replicate ops.toArray.size false) ops.length
    have hl3 : ops.toArray.size = ops.length := by simp
    omega
  · rw [rep_getD] at h; cases h
  · rw [rep_getD] at h; cases h
  · rw [rep_getD] at h; cases h

/-- An operation that hands on nothing. -/
theorem step_new {o : Oper} {a : Act} {w : World} {fs : List Fact} {cs : List (Option Nat)} {i : Nat} {u : Nat → Value} (hc : cpAt cs i = none)
    (h : o.wp P a w (fun a' w' => ∃ v, a' = a.put o.dst v ∧ (factAt fs i).p v w' ∧ Below w.heap.size w w' ∧ ((factAt fs i).new = true → ∀ b, blk v = some b → w.heap.size ≤ b)) Q) :
    o.wp P a w (fun a' w' => ∃ v, a' = a.put o.dst v ∧ ((factAt fs i).p v w' ∧ ∀ k, cpAt cs i = some k → v = u k) ∧ Below w.heap.size w w' ∧ ((factAt fs i).new = true → ∀ b, blk v = some b → w.heap.size ≤ b)) Q :=
  Oper.wp_mono (fun _ _ ⟨v, h1, h2, h3, h4⟩ => ⟨v, h1, ⟨h2, fun k hk => by rw [hc] at hk; cases hk⟩, h3, h4⟩) h
/-- One that hands on. -/
theorem step_copy {o : Oper} {a : Act} {w : World} {fs : List Fact} {cs : List (Option Nat)} {i k : Nat} {u : Nat → Value} (hc : cpAt cs i = some k) (hf : factAt fs i = ⟨fun _ _ => True, false⟩) (h : (execOp a.eval o).run P w = .ok (.value (u k)) w) :
    o.wp P a w (fun a' w' => ∃ v, a' = a.put o.dst v ∧ ((factAt fs i).p v w' ∧ ∀ k, cpAt cs i = some k → v = u k) ∧ Below w.heap.size w w' ∧ ((factAt fs i).new = true → ∀ b, blk v = some b → w.heap.size ≤ b)) Q := by
  unfold Oper.wp
  rw [h]
  simp only [Oper.upon]
  refine ⟨_, rfl, ⟨by rw [hf]; trivial, fun q hq => by rw [hc] at hq; cases hq; rfl⟩, Below.refl _ _, fun e => by rw [hf] at e; cases e⟩
theorem madeC_new {fs : List Fact} {cs : List (Option Nat)} {w0 : World} {i : Nat} {o : Oper} {r : List Oper} {A : (Nat → Value) → Act} (hc : cpAt cs i = none)
    (h : ∀ (u : Nat → Value) (w : World), Below w0.heap.size w0 w → (∀ j, j < i → hasEdge o j = true → (factAt fs j).p (u j) w) → o.wp P (A u) w (fun a' w' => ∃ v, a' = (A u).put o.dst v ∧ (factAt fs i).p v w' ∧ Below w.heap.size w w' ∧ ((factAt fs i).new = true → ∀ b, blk v = some b → w.heap.size ≤ b)) Q)
    (hr : MadeC P Q fs cs w0 (i + 1) r (fun u => (A u).put o.dst (u i))) : MadeC P Q fs cs w0 i (o :: r) A := ⟨fun u w hb hd => step_new hc (h u w hb hd), hr⟩
theorem madeC_copy {fs : List Fact} {cs : List (Option Nat)} {w0 : World} {i : Nat} {o : Oper} {r : List Oper} {A : (Nat → Value) → Act} (k : Nat) (hc : cpAt cs i = some k) (hf : factAt fs i = ⟨fun _ _ => True, false⟩)
    (h : ∀ (u : Nat → Value) (w : World), (execOp (A u).eval o).run P w = .ok (.value (u k)) w)
    (hr : MadeC P Q fs cs w0 (i + 1) r (fun u => (A u).put o.dst (u i))) : MadeC P Q fs cs w0 i (o :: r) A := ⟨fun u w _ _ => step_copy hc hf (h u w), hr⟩
end
/-- Nothing is asked. -/
def fTrue : Fact := ⟨fun _ _ => True, false⟩
theorem fTrue_good : fTrue.Good := ⟨fun _ _ _ _ _ => trivial, fun h => by cases h⟩
end Go.Proofs.YtoagnhppjlcpkaaGreat.V

/-
  ArrayCuts: where no error is told.
-/
namespace Go.Proofs.YtoagnhppjlcpkaaGreat.V
set_option maxRecDepth 20000
open Go.RowKit

set_option maxRecDepth 100000 in
set_option maxHeartbeats 2000000 in
theorem cuts_good (b off m cap : Nat) (v : Nat → ArrV) (X : Nat → List Int) (p : Nat) (w : World)
    (hA : ∀ j, j < m → w.cell? ⟨b, off + j * 2, none⟩ = some (v j).d ∧ w.cell? ⟨b, off + j * 2 + 1, none⟩ = some (v j).x ∧ Lst w (v j).da (v j).dl (v j).dc (v j).ds) (hX : ∀ j, j < m → Ints w (v j).xa (v j).xl (X j)) (hXc : ∀ j, j < m → (v j).xl ≤ (v j).xc) (hm : m ≤ 1048576) (hE : doE 17 [] [(p : Int)] [] [] [] m v = 0) {L f rs : List Int} {K : Nat → Nat} {fr B : Nat} (hL : L = (dimsP 17 [] [(p : Int)] [] [] [] (dimsOf m v)).1) (hJ : Joined v m p L f rs K fr B) :
    Calls Tryz.prog 6 #[.slice (some ⟨b, off, none⟩) m cap, .int .i64 (p : Int)] w fun e w' => e = .returned (.bool true) ∧ Below w.heap.size w w' := by
  have HA := hide hA
  have HX := hide hX
  have HXC := hide hXc
  have HE := hide hE
  have HL := hide hL
  have HJ := hide hJ
  have hpl : p < L.length := by have := hJ.len.1; omega
  have hl6 := (sizeE_ok hJ.size).1
  obtain ⟨N, hN⟩ : ∃ N, N = (prod L).toNat := ⟨_, rfl⟩
  obtain ⟨JL, hJL⟩ : ∃ JL, JL = joinL X K B m N := ⟨_, rfl⟩
  have HN := hide hN
  have HJL := hide hJL
  clear hA hX hXc hE hL hJ hN hJL
  go_enter Tryz.func6, Tryz.ntmps6
  go_wp2_with (first
    | (go_at_call 7; have hb4 := HB6.out.alloc HB6.out.size (.cells #[.int .i64 (p : Int)] 3); have h17 := do_17 0 none 0 0 [] (some ⟨w2.heap.size + 1, 0, none⟩) 1 1 [(p : Int)] none 0 0 [] none 0 0 [] none 0 0 [] b off m cap v X ((w2.alloc (.cells #[.slice Zr nr cr, .slice Gr N gr] 28)).alloc (.cells #[.int .i64 (p : Int)] 3)) (lst_none _) ⟨ints_one (p : Int) (by omega) _ (by simp), by omega, fun e => by cases e⟩ (lst_none _) (lst_none _) (lst_none _) (by omega) (by omega) (by omega) (by omega) (by omega) (fun j hj => ⟨(hb4.cell (p := ⟨b, off + j * 2, none⟩) (lt_of_cell (HA.out j hj).1)).trans (HA.out j hj).1, (hb4.cell (p := ⟨b, off + j * 2 + 1, none⟩) (lt_of_cell (HA.out j hj).2.1)).trans (HA.out j hj).2.1, (HA.out j hj).2.2.below hb4⟩) (fun j hj => (HX.out j hj).below hb4) HXC.out hm HE.out rfl HL.out HJ.out; rw [← HN.out, ← HJL.out] at h17; refine h17.mono ?_; clear h17; rintro e w3 ⟨⟨Z, nz, cz, G, rfl, ⟨hi1, hnc⟩, hi2, hg⟩, hb⟩; have hnz := hi1.1; have HI1 := hide hi1; have HI2 := hide hi2; have HNC := hide hnc; have HB7 := hide (Below.on hb4 hb); have HAJ := hide (ArrAt.new w3 (.slice Z nz cz) (.slice (some ⟨G, 0, none⟩) N N)); have hk1 : ¬ (nz : Int) ≤ (p : Int) := (by omega); clear hb4 hb hi1 hi2 hnc hg; obtain ⟨⟨a0, a1⟩, _⟩ := HAJ.out.cells)
    | (go_at_call 8; have hb4 := HB3.out.alloc HB3.out.size (.cells #[.int .i64 (p : Int)] 3); refine (rdo_17 0 none 0 0 [] (some ⟨w1.heap.size, 0, none⟩) 1 1 [(p : Int)] none 0 0 [] none 0 0 [] none 0 0 [] b off m cap v X _ (lst_none _) ⟨ints_one (p : Int) (by omega) _ rfl, by omega, fun e => by cases e⟩ (lst_none _) (lst_none _) (lst_none _) (by omega) (by omega) (by omega) (by omega) (by omega) (fun j hj => ⟨(hb4.cell (p := ⟨b, off + j * 2, none⟩) (lt_of_cell (HA.out j hj).1)).trans (HA.out j hj).1, (hb4.cell (p := ⟨b, off + j * 2 + 1, none⟩) (lt_of_cell (HA.out j hj).2.1)).trans (HA.out j hj).2.1, (HA.out j hj).2.2.below hb4⟩) (fun j hj => (HX.out j hj).below hb4) hm HE.out rfl HL.out HJ.out).mono ?_; rintro e w2 ⟨⟨Zr, nr, cr, Gr, gr, rfl, _, _⟩, hb⟩; rw [← HN.out]; have HB5 := hide (Below.on hb4 hb); have HB6 := hide (HB5.out.alloc HB5.out.size (.cells #[.slice Zr nr cr, .slice Gr N gr] 28)); clear hb4 hb)
    | (go_at_call 10; refine (alive2_any _).mono ?_; rintro e w1 ⟨rfl, hb⟩; have HB3 := hide hb; clear hb))
  have HB8 := hide (HB7.out.alloc HB7.out.size (.cells #[.slice Z nz cz, .slice (some ⟨G, 0, none⟩) N N] 28))
  obtain ⟨W4, hW4⟩ : ∃ W4, W4 = w3.alloc (.cells #[.slice Z nz cz, .slice (some ⟨G, 0, none⟩) N N] 28) := ⟨_, rfl⟩
  rw [← hW4] at HB8 HAJ ⊢
  have HI3 := hide (HI1.out.below (show Below w3.heap.size w3 W4 by rw [hW4]; exact (Below.refl _ _).alloc (Nat.le_refl _) _))
  have HI4 := hide (HI2.out.below (show Below w3.heap.size w3 W4 by rw [hW4]; exact (Below.refl _ _).alloc (Nat.le_refl _) _))
  have hs4 : W4.heap.size = w3.heap.size + 1 := by rw [hW4]; simp
  obtain ⟨zb, zo, rfl, _, hzc⟩ := HI3.out.at (by omega)
  have hzp := hzc p (by omega)
  rw [HJ.out.at] at hzp
  have HZP := hide hzp
  have HB37 := HB7
  have hw37 := HB7.out.size
  clear hW4 a0 a1 hzc hzp HI1 HI2 HB7 HB3 HB5 HB6
  have hdec : decide (nz ≤ p) = false := by simp; omega
  rw [hdec]
  clear hdec
  go_loopw [9, 49] (fun nv i wr => ∃ s : Nat, s ≤ m ∧ i = .int .i64 s ∧ nv = .int .i64 ((beg K s : Nat) : Int) ∧ Below W4.heap.size W4 wr) (fun _ i _ => m - (intOf i).toNat)
  case atStart => exact ⟨0, Nat.zero_le _, rfl, rfl, Below.refl _ _⟩
  case round =>
    obtain ⟨s, hs, rfl, rfl, hwr⟩ := hrel
    have HWR := hide hwr
    have HAR := hide (HAJ.out.below hwr)
    have hsz := hwr.size
    obtain ⟨⟨r0, r1⟩, _⟩ := HAR.out.cells
    clear hwr
    by_cases hlt : s < m
    · obtain ⟨c0, c1, hdi⟩ := HA.out s hlt
      have hxi := HX.out s hlt
      obtain ⟨⟨da, dl, dc, ds, xa, xl, xc⟩, hvs⟩ : ∃ u, u = v s := ⟨_, rfl⟩
      have HVS := hide hvs
      rw [← hvs] at c0 c1 hdi hxi
      simp only [ArrV.d, ArrV.x] at c0 c1 hdi hxi
      have HBW := hide (Below.on HB8.out HWR.out)
      have s0 := (HBW.out.cell (p := ⟨b, off + s * 2, none⟩) (lt_of_cell c0)).trans c0
      have s1 := (HBW.out.cell (p := ⟨b, off + s * 2 + 1, none⟩) (lt_of_cell c1)).trans c1
      have HDI := hide (hdi.below HBW.out)
      have HXI := hide (hxi.below HBW.out)
      have HNB := hide (ArrAt.new wr (.slice da dl dc) (.slice xa xl xc))
      have i3 : (0 : Int) ≤ (s : Int) := Int.natCast_nonneg _
      have i4 : (s : Int) < (m : Int) := by omega
      clear hdi hxi c0 c1 hvs
      have hb0 := (Below.refl wr.heap.size wr).alloc (Nat.le_refl _) (.cells #[.slice da dl dc, .slice xa xl xc] 28)
      have HAQ := hide (HAR.out.alloc (.cells #[.slice da dl dc, .slice xa xl xc] 28))
      go_wp2
      obtain ⟨W0, hW0⟩ : ∃ W0, W0 = wr.alloc (.cells #[.slice da dl dc, .slice xa xl xc] 28) := ⟨_, rfl⟩
      have HS0 : Hid (W0.heap.size = wr.heap.size + 1) := by rw [Hid, hW0]; simp
      rw [← hW0] at hb0 HNB HAQ ⊢
      have HB0 := hide hb0
      have HL5 := hide ((HI3.out.below HWR.out).below hb0)
      have HJ5 := hide ((HI4.out.below HWR.out).below hb0)
      have HD5 := hide (HDI.out.below hb0)
      have HX5 := hide (HXI.out.below hb0)
      clear hW0 hb0 r0 r1 s0 s1 HDI HXI
      have hmk := run_make_row' (P := Tryz.prog) 22 3 (.int .i64 0) 8 Tryz.underlying22 info_int rfl .i64 .i64 nz (by omega) (by omega)
      obtain ⟨⟨e0, e1⟩, _⟩ := HNB.out.cells
      obtain ⟨⟨r0, r1⟩, _⟩ := HAQ.out.cells
      refine region_copies 15 [fIs (.pointer (some ⟨w3.heap.size, 0, none⟩)), fIs (.slice (some ⟨zb, zo, none⟩) nz cz), fIs (.int .i64 (nz : Int)), fNewL W0.heap.size (List.replicate nz 0), fNo, fIs (.pointer (some ⟨w3.heap.size, 0, none⟩)), fIs (.slice (some ⟨zb, zo, none⟩) nz cz), fNewL W0.heap.size L, fIs (.pointer (some ⟨w3.heap.size, 0, none⟩)), fIs (.slice (some ⟨zb, zo, none⟩) nz cz), fIs (.int .i64 (nz : Int)), fNewL W0.heap.size (List.replicate nz 0), fTrue, fTrue, fTrue] [none, none, none, none, none, none, none, none, none, none, none, none, some 3, some 7, some 11] (by kernel_rfl) (by rfl) (by kernel_rfl) (by kernel_rfl) (by kernel_rfl) (fun _ ⟨_, _⟩ ⟨_, _⟩ _ e h => by cases e; exact h) ⟨fIs_good _, fIs_good _, fIs_good _, fNewL_good _ _, fNo_good, fIs_good _, fIs_good _, fNewL_good _ _, fIs_good _, fIs_good _, fIs_good _, fNewL_good _ _, fTrue_good, fTrue_good, fTrue_good, trivial⟩ ?mk ?rest
      case mk =>
        refine (madeC_new rfl (fun u wz hb hd => ?_) (madeC_new rfl (fun u wz hb hd => ?_) (madeC_new rfl (fun u wz hb hd => ?_) (madeC_new rfl (fun u wz hb hd => ?_) (madeC_new rfl (fun u wz hb hd => ?_) (madeC_new rfl (fun u wz hb hd => ?_) (madeC_new rfl (fun u wz hb hd => ?_) (madeC_new rfl (fun u wz hb hd => ?_) (madeC_new rfl (fun u wz hb hd => ?_) (madeC_new rfl (fun u wz hb hd => ?_) (madeC_new rfl (fun u wz hb hd => ?_) (madeC_new rfl (fun u wz hb hd => ?_) (madeC_copy 3 rfl rfl (fun u wz => ?_) (madeC_copy 7 rfl rfl (fun u wz => ?_) (madeC_copy 11 rfl rfl (fun u wz => ?_) trivial)))))))))))))))
        all_goals simp only [Act.put, List.setIfInBounds_toArray, List.set_cons_zero, List.set_cons_succ]
        · go_simp
          exact ⟨rfl, Below.refl _ _, fun h => by cases h⟩
        · have e0 : u 0 = .pointer (some ⟨w3.heap.size, 0, none⟩) := hd 0 (by omega) (by kernel_rfl)
          rw [e0]
          have r0' := (hb.cell (p := ⟨w3.heap.size, 0, none⟩) (lt_of_cell r0)).trans r0
          go_simp
          exact ⟨rfl, Below.refl _ _, fun h => by cases h⟩
        · have e1 : u 1 = .slice (some ⟨zb, zo, none⟩) nz cz := hd 1 (by omega) (by kernel_rfl)
          rw [e1]
          go_simp
          exact ⟨rfl, Below.refl _ _, fun h => by cases h⟩
        · have e2 : u 2 = .int .i64 (nz : Int) := hd 2 (by omega) (by kernel_rfl)
          rw [e2]
          go_simp
          exact ⟨newL_of_row (World.rowIs_made _ _ _ _) hb.size, (Below.refl _ _).alloc (Nat.le_refl _) _, fun _ b hb => by simp [blk] at hb; omega⟩
        · go_simp
          exact ⟨⟨_, rfl⟩, (Below.refl _ _).alloc (Nat.le_refl _) _, fun h => by cases h⟩
        · go_simp
          exact ⟨rfl, Below.refl _ _, fun h => by cases h⟩
        · have e5 : u 5 = .pointer (some ⟨w3.heap.size, 0, none⟩) := hd 5 (by omega) (by kernel_rfl)
          rw [e5]
          have r0' := (hb.cell (p := ⟨w3.heap.size, 0, none⟩) (lt_of_cell r0)).trans r0
          go_simp
          exact ⟨rfl, Below.refl _ _, fun h => by cases h⟩
        · obtain ⟨B4, e4⟩ := hd 4 (by omega) (by kernel_rfl)
          have e6 : u 6 = .slice (some ⟨zb, zo, none⟩) nz cz := hd 6 (by omega) (by kernel_rfl)
          rw [e4, e6]
          refine wp_append_fresh (.tmp 57) (.tmp 59) rfl W0.heap.size B4 nz cz (some ⟨zb, zo, none⟩) L rfl rfl (HL5.out.below hb) (by omega) (by omega) hb.size (fun v w2 h1 h2 h3 => ?_)
          exact ⟨_, rfl, h1, h2, fun _ => h3⟩
        · go_simp
          exact ⟨rfl, Below.refl _ _, fun h => by cases h⟩
        · have e8 : u 8 = .pointer (some ⟨w3.heap.size, 0, none⟩) := hd 8 (by omega) (by kernel_rfl)
          rw [e8]
          have r0' := (hb.cell (p := ⟨w3.heap.size, 0, none⟩) (lt_of_cell r0)).trans r0
          go_simp
          exact ⟨rfl, Below.refl _ _, fun h => by cases h⟩
        · have e9 : u 9 = .slice (some ⟨zb, zo, none⟩) nz cz := hd 9 (by omega) (by kernel_rfl)
          rw [e9]
          go_simp
          exact ⟨rfl, Below.refl _ _, fun h => by cases h⟩
        · have e10 : u 10 = .int .i64 (nz : Int) := hd 10 (by omega) (by kernel_rfl)
          rw [e10]
          go_simp
          exact ⟨newL_of_row (World.rowIs_made _ _ _ _) hb.size, (Below.refl _ _).alloc (Nat.le_refl _) _, fun _ b hb => by simp [blk] at hb; omega⟩
        · go_simp
        · go_simp
        · go_simp
      case rest =>
        intro u wz hb hf hp hc
        have f0 : u 0 = .pointer (some ⟨w3.heap.size, 0, none⟩) := hf 0 (by omega)
        have f1 : u 1 = .slice (some ⟨zb, zo, none⟩) nz cz := hf 1 (by omega)
        have f2 : u 2 = .int .i64 (nz : Int) := hf 2 (by omega)
        obtain ⟨G3, c3, F3, f3, l3, n3, g3, k3⟩ := hf 3 (by omega)
        obtain ⟨_, f4⟩ := hf 4 (by omega)
        have f5 : u 5 = .pointer (some ⟨w3.heap.size, 0, none⟩) := hf 5 (by omega)
        have f6 : u 6 = .slice (some ⟨zb, zo, none⟩) nz cz := hf 6 (by omega)
        obtain ⟨G7, c7, F7, f7, l7, n7, g7, k7⟩ := hf 7 (by omega)
        have f8 : u 8 = .pointer (some ⟨w3.heap.size, 0, none⟩) := hf 8 (by omega)
        have f9 : u 9 = .slice (some ⟨zb, zo, none⟩) nz cz := hf 9 (by omega)
        have f10 : u 10 = .int .i64 (nz : Int) := hf 10 (by omega)
        obtain ⟨G11, c11, F11, f11, l11, n11, g11, k11⟩ := hf 11 (by omega)
        have f12 : u 12 = u 3 := hc 12 3 (by omega) rfl
        have f13 : u 13 = u 7 := hc 13 7 (by omega) rfl
        have f14 : u 14 = u 11 := hc 14 11 (by omega) rfl

        rw [List.length_replicate] at f3 l3 k3 f11 l11 k11
        rw [hnz] at f7 l7 k7
        have hne1 : G3 ≠ G7 := fun e => hp 3 7 (by omega) (by omega) (by omega) rfl rfl G3 (by rw [f3]; rfl) (by rw [f7, e]; rfl)
        have hne2 : G3 ≠ G11 := fun e => hp 3 11 (by omega) (by omega) (by omega) rfl rfl G3 (by rw [f3]; rfl) (by rw [f11, e]; rfl)
        have hne3 : G7 ≠ G11 := fun e => hp 7 11 (by omega) (by omega) (by omega) rfl rfl G7 (by rw [f7]; rfl) (by rw [f11, e]; rfl)
        have HG3 := hide g3
        have HG7 := hide g7
        have HG11 := hide g11
        have HK3 := hide k3
        have HK7 := hide k7
        have HK11 := hide k11
        have HBZ := hide hb
        simp only [putOps, Act.put, List.setIfInBounds_toArray, List.set_cons_zero, List.set_cons_succ, Nat.reduceAdd, f12, f13, f14, f0, f1, f2, f3, f4, f5, f6, f7, f8, f9, f10, f11]
        clear f12 f13 f14 f0 f1 f2 f3 f4 f5 f6 f7 f8 f9 f10 f11 hf hp hc

        clear g3 g7 g11 k3 k7 k11 hb hmk r0 r1 e0 e1
        obtain ⟨Wr, hWr⟩ : ∃ Wr, Wr = wr := ⟨_, rfl⟩
        subst hWr
        go_wp2
        go_loopw [67] (fun i w5 => ∃ k : Nat, k ≤ nz ∧ i = .int .i64 k ∧ w5.rowIs G11 3 c11 (fun j => if j < k then .int .i64 1 else F11 j) ∧ But G11 wz w5 ∧ Below 0 wz w5) (fun i _ => nz - (intOf i).toNat)
        case atStart => exact ⟨0, Nat.zero_le _, rfl, HG11.out.congr (fun j _ => by simp), But.refl _ _, Below.refl _ _⟩
        case round =>
          obtain ⟨k, hk, rfl, hrow, hB, h0⟩ := hrel
          have HR := hide hrow
          have HB := hide hB
          have H0 := hide h0
          clear hrow hB h0
          by_cases hklt : k < nz
          · have hr := HR.out.cell (i := k) (by omega)
            have hfz := HR.out.frozen k
            have i5 : (0 : Int) ≤ (k : Int) := Int.natCast_nonneg _
            have i6 : (k : Int) < (nz : Int) := by omega
            go_wp2
            go_roundw
            case rel =>
              refine ⟨k + 1, by omega, by go_num, (HR.out.set k (.int .i64 1)).congr (fun j _ => ?_), HB.out.set k _, H0.out.setCell (p := ⟨G11, k, none⟩) (Nat.zero_le _) _⟩
              by_cases e1 : j = k
              · subst e1; simp
              · by_cases e2 : j < k
                · rw [if_neg e1, if_pos e2, if_pos (by omega)]
                · rw [if_neg e1, if_neg e2, if_neg (by omega)]
            case measure => simp [intOf]; omega
          · have hkn : k = nz := by omega
            have hs0 := HS0.out
            obtain ⟨W5, hW5⟩ : ∃ W5, W5 = wr := ⟨_, rfl⟩
            subst hW5
            have hb5 : Below W0.heap.size W0 W5 := HBZ.out.trans ⟨H0.out.os, H0.out.tape, H0.out.output, H0.out.size, fun i hi => HB.out.1 i (by omega)⟩
            have hr3 := HG3.out.of_block (HB.out.1 G3 hne2)
            have hr7 := HG7.out.of_block (HB.out.1 G7 hne3)
            obtain ⟨db, dof, hda, hdb, hdc⟩ := HD5.out.1.at (by have h1 := HJ.out.len.2 s hlt; rw [← HVS.out] at h1; have h2 := HD5.out.1.1; simp only at h1; omega)
            subst hda
            have hdl : dl = nz := by have h1 := HJ.out.len.2 s hlt; rw [← HVS.out] at h1; have h2 := HD5.out.1.1; simp only at h1; omega
            have hdim : ds[p]?.getD 0 = (K s : Int) := by have h1 := HJ.out.dim hlt hpl; rw [← HVS.out, if_pos rfl] at h1; exact h1
            have hbm := beg_mono K (s := s + 1) (t := m) (by omega)
            have hLp := HJ.out.at
            have hLb := HL5.out.bd p (by omega)
            rw [hLp] at hLb
            rw [show beg K (s + 1) = beg K s + K s from rfl] at hbm
            obtain ⟨N0, hN0⟩ : ∃ N0, N0 = beg K s := ⟨_, rfl⟩
            obtain ⟨K0, hK0⟩ : ∃ K0, K0 = K s := ⟨_, rfl⟩
            have cd0 := hdc p (by omega)
            rw [hdim, ← hK0] at cd0
            rw [← hN0, ← hK0] at hbm
            rw [← hN0]
            have hNK : N0 + K0 ≤ 9223372036854775807 := by omega
            have HCL := hide (cut_lists (p := p) (n0 := N0) (n1 := N0 + K0) (v0 := (N0 : Int)) (v1 := (N0 : Int) + (K0 : Int)) hr3 hr7 HR.out HK3.out HK7.out (fun j hj => by simp [hkn, hj]) hnz l3 l7 l11 hne1 hne2 hne3 HL5.out.2.2.1 rfl (by omega) hNK (by omega) (by omega))
            have w3a := hr3.cell (i := p) (by omega)
            have w3f := hr3.frozen p
            have ha6 := (HNB.out.below hb5).set (p := ⟨G3, p, none⟩) (by simp; omega) (.int .i64 (N0 : Int))
            have hlA := HAQ.out.lt
            have ha7 := ((HAQ.out.below hb5).set (p := ⟨G3, p, none⟩) (by simp; omega) (.int .i64 (N0 : Int))).set (p := ⟨G7, p, none⟩) (by simp; omega) (.int .i64 ((N0 : Int) + (K0 : Int)))
            have ha8 := ha6.set (p := ⟨G7, p, none⟩) (by simp; omega) (.int .i64 ((N0 : Int) + (K0 : Int)))
            have hb6 : Below W0.heap.size W0 (W5.setCell ⟨G3, p, none⟩ (.int .i64 (N0 : Int))) := hb5.setCell (p := ⟨G3, p, none⟩) n3 _
            have hb7 : Below W0.heap.size W0 ((W5.setCell ⟨G3, p, none⟩ (.int .i64 (N0 : Int))).setCell ⟨G7, p, none⟩ (.int .i64 ((N0 : Int) + (K0 : Int)))) := hb6.setCell (p := ⟨G7, p, none⟩) n7 _
            have cd := (hb6.cell (p := ⟨db, dof + p, none⟩) hdb).trans cd0
            have hr7' := hr7.setOther (a := ⟨G3, p, none⟩) (Ne.symm hne1) (.int .i64 (N0 : Int))
            have w7a := hr7'.cell (i := p) (by omega)
            have w7f := hr7'.frozen p
            obtain ⟨⟨e0, e1⟩, _⟩ := ha6.cells
            obtain ⟨⟨r0, r1⟩, _⟩ := ha7.cells
            obtain ⟨W7, hW7⟩ : ∃ W7, W7 = (W5.setCell ⟨G3, p, none⟩ (.int .i64 (N0 : Int))).setCell ⟨G7, p, none⟩ (.int .i64 ((N0 : Int) + (K0 : Int))) := ⟨_, rfl⟩
            have HB7 := hide hb7
            have HA7 := hide ha7
            have HA8 := hide ha8
            rw [← hW7] at HB7 HA7 HA8 HCL
            have hDE := cuts_doE HJ.out hlt
            rw [hnz, ← hN0, ← hK0, ← HN.out] at hDE
            obtain ⟨hd1, _, _⟩ := cuts_dims HJ.out hlt
            rw [hnz, ← hN0, ← hK0, ← HVS.out] at hd1
            have hd2 := cuts_back (X := X) HJ.out hlt (by rw [← HVS.out]; exact HX5.out.1)
            rw [hnz, ← hN0, ← hK0, ← HN.out, ← HJL.out] at hd2
            have hxl : (prod ds).toNat = xl := by have h1 := (arrE_ok (HJ.out.right s hlt)).2; rw [← HVS.out] at h1; simp only at h1; omega
            have HO := hide (one_gen 13 0 (.slice none 0 0) (.slice none 0 0) (.slice (some ⟨G3, 0, none⟩) nz c3) (.slice (some ⟨G7, 0, none⟩) nz c7) (.slice (some ⟨G11, 0, none⟩) nz c11) (some ⟨zb, zo, none⟩) nz cz (some ⟨G, 0, none⟩) N N ds (X s) xl W7 (fun W b hW hA => by
              have hx := do_13 0 none 0 0 [] none 0 0 [] (some ⟨G3, 0, none⟩) nz c3 (cutLo nz p N0) (some ⟨G7, 0, none⟩) nz c7 (cutHi L p (N0 + K0)) (some ⟨G11, 0, none⟩) nz c11 (List.replicate nz 1) L N W7 (lst_none _) (lst_none _) HCL.out.1 HCL.out.2.1 HCL.out.2.2 (by omega) (by omega) (by omega) (by omega) (by omega) hDE W b 0 1 (some ⟨zb, zo, none⟩) nz cz (some ⟨G, 0, none⟩) N JL hW hA.cells.1.1 hA.cells.1.2 ⟨(HL5.out.below HB7.out).below hW, HNC.out, fun e => by cases e⟩ ((HJ5.out.below HB7.out).below hW) (Nat.le_refl _)
              rw [hnz, hd2, hd1, hxl] at hx
              exact hx))
            have HN0 := hide hN0
            have HK0 := hide hK0
            have hw7 := hW7
            have i7 : (0 : Int) ≤ (p : Int) := Int.natCast_nonneg _
            have i8 : (p : Int) < (nz : Int) := by omega
            have i9 : (p : Int) < (dl : Int) := by omega
            clear hDE hd1 hd2 hxl ha6 ha7 ha8 hb5 hb6 hb7 hr3 hr7 hr7' hdc hdb cd0 hN0 hK0 hdim hLp hbm hkn hdl hs0
            go_wp2_with (first
              | (go_at_call 9; refine (sameArr_true Z2 nz2 cz2 (some ⟨db, dof, none⟩) dl dc ds xl (some ⟨G2, 0, none⟩) xl xa xc (X s) _ HS1.out HS2.out HS3.out HS4.out).mono ?_; rintro e w9 ⟨rfl, hb⟩; have HBE := hide (Below.on HB9.out hb); clear hb)
              | (go_at_call 11; rw [← hW7]; refine HO.out.mono ?_; rintro e w8 ⟨⟨Z2, nz2, cz2, G2, rfl, ⟨hi1, hnc2⟩, hi2⟩, hb⟩; have hal := (Below.refl w8.heap.size w8).alloc (Nat.le_refl _) (.cells #[.slice Z2 nz2 cz2, .slice (some ⟨G2, 0, none⟩) xl xl] 28); have HB9 := hide (Below.on hb hal); have HA9 := hide (HA8.out.below HB9.out); have HN9 := hide (ArrAt.new w8 (.slice Z2 nz2 cz2) (.slice (some ⟨G2, 0, none⟩) xl xl)); have HS1 := hide (hi1.below hal); have HS3 := hide (hi2.below hal); have HS2 := hide ((HD5.out.1.below HB7.out).below HB9.out); have HS4 := hide ((HX5.out.below HB7.out).below HB9.out); obtain ⟨⟨p0, p1⟩, _⟩ := HA9.out.cells; obtain ⟨⟨q0, q1⟩, _⟩ := HN9.out.cells; clear hb hal hi1 hi2 hW7))
            go_roundw
            case rel =>
              refine ⟨s + 1, by omega, by go_num, ?_, Below.on (Below.on (Below.on HWR.out HB0.out) HB7.out) HBE.out⟩
              rw [show beg K (s + 1) = beg K s + K s from rfl, ← HN0.out, ← HK0.out]
              push_cast
              rfl
            case measure => simp [intOf]; omega
    · have hsm : s = m := by omega
      subst hsm
      have z0 := (HWR.out.cell (p := ⟨zb, zo + p, none⟩) (lt_of_cell HZP.out)).trans HZP.out
      have i1 : (0 : Int) ≤ (p : Int) := Int.natCast_nonneg _
      have i2 : (p : Int) < (nz : Int) := by omega
      have q1 : (((beg K s : Nat) : Int) == ((beg K s : Nat) : Int)) = true := by simp
      go_wp2
      go_ret
      exact ⟨rfl, Below.on HB8.out HWR.out⟩
end Go.Proofs.YtoagnhppjlcpkaaGreat.V

/-
  ArrayCuts: the law.
-/
namespace Go.Proofs.YtoagnhppjlcpkaaGreat.V
set_option maxRecDepth 20000
open Go.RowKit

theorem arrayCuts_walk (A : Option Addr) (m cap : Nat) (v : Nat → ArrV) (X : Nat → List Int) (at0 : Int) (w : World) (hat : -9223372036854775808 ≤ at0 ∧ at0 ≤ 9223372036854775807) (hA : Arrs w A m v) (hX : ∀ j, j < m → Ints w (v j).xa (v j).xl (X j)) (hXc : ∀ j, j < m → (v j).xl ≤ (v j).xc) (hm : m ≤ 1048576) :
    Calls Tryz.prog 6 #[.slice A m cap, .int .i64 at0] w fun e w' => e = .returned (.bool true) ∧ Below w.heap.size w w' := by
  by_cases hE : doE 17 [] [at0] [] [] [] m v = 0
  · obtain ⟨p, f, rs, K, fr, B, e, hJ⟩ := joined_of hE
    have e' : at0 = (p : Int) := by simpa using e
    subst e'
    have hpos := hJ.pos
    rcases hA with h0 | ⟨b, off, rfl, h⟩
    · omega
    · exact cuts_good b off m cap v X p w h hX hXc hm hE rfl hJ
  · exact cuts_err A m cap v at0 w hat hA hm hE
end Go.Proofs.YtoagnhppjlcpkaaGreat.V
