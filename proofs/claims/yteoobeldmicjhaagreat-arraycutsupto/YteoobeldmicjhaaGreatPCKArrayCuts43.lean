/-
  Contracts: array.Do, kind by kind: just what is made. Contract: adjointlaw2.one, whatever is asked, where Do tells no error. Plain mathematics: Join, entry by entry. Mathematics of ArrayRows: taking rows and putting them go back and forth. Contracts: array.Do of Fill, whatever the list of dimensions is; adjointlaw2.one0 of it.
-/
import Derived.Test.YteoobeldmicjhaaGreatPCKArrayCuts42
import Derived.Test.YteoobeldmicjhaaGreatPCKArrayCuts38
import Derived.Test.YteoobeldmicjhaaGreatPCKArrayCuts41
import Derived.Test.YteoobeldmicjhaaGreatPCKArrayCuts34
namespace Go.Proofs.YteoobeldmicjhaaGreat.V
set_option maxRecDepth 20000
open Go.RowKit

theorem do_look2 (k : Int) (hk : k = 9 ∨ k = 11 ∨ k = 13 ∨ k = 15) (x : Int) (ea : Option Addr) (el ec : Nat) (es : List Int) (pa : Option Addr) (pl pc : Nat) (ps : List Int) (la : Option Addr) (ll lc : Nat) (lo : List Int) (ha : Option Addr) (hl hc : Nat) (hi : List Int) (ta : Option Addr) (tl tc : Nat) (st : List Int) (ds : List Int) (n : Nat) (S : Int) (D Tt : List Int) (w : World)
    (he : Lst w ea el ec es) (hp : Lst w pa pl pc ps) (hlo : Lst w la ll lc lo) (hhi : Lst w ha hl hc hi) (hst : Lst w ta tl tc st) (b0 : el ≤ 1048576) (b1 : pl ≤ 1048576) (b2 : ll ≤ 1048576) (b3 : hl ≤ 1048576) (b4 : tl ≤ 1048576) (hE : doE k es ps lo hi st 1 (oneV ds n) = 0) (hL : (shapeP k es ps lo hi st [ds]).1 = D) (hwr : wrongE S D Tt = 0) (hq : ∀ i : Nat, i < (prod D).toNat → ∃ p : Nat, p < (prod ds).toNat ∧ (readsV S D Tt)[i]?.getD 0 = (p : Int))
    (hseen : ∀ (W : World) (da : Option Addr) (dl dc : Nat), Below w.heap.size w W → Ints W da dl ds → Calls Tryz.prog 61 #[.agg #[.int .i64 k, .slice ea el ec, .slice pa pl pc, .slice la ll lc, .slice ha hl hc, .slice ta tl tc, .int .i64 x], .slice da dl dc] W fun e W' => Seen S D Tt e W' ∧ Below W.heap.size W W') :
    ∀ (W : World) (b off cap : Nat) (da : Option Addr) (dl dc : Nat) (xa : Option Addr) (xc : Nat) (xs : List Int), Below w.heap.size w W → W.cell? ⟨b, off, none⟩ = some (.slice da dl dc) → W.cell? ⟨b, off + 1, none⟩ = some (.slice xa n xc) → Lst W da dl dc ds → Ints W xa n xs → n ≤ xc → Calls Tryz.prog 9 #[.agg #[.int .i64 k, .slice ea el ec, .slice pa pl pc, .slice la ll lc, .slice ha hl hc, .slice ta tl tc, .int .i64 x], .slice (some ⟨b, off, none⟩) 1 cap] W fun e W' => DoesTo W D (lookL xs (readsV S D Tt)) (prod D).toNat e W' ∧ Below W.heap.size W W' := by
  obtain ⟨hae, hs1, hs2, hs3⟩ := oneV_parts hE
  rw [hL] at hs2 hs3
  obtain ⟨haL, hN⟩ := arrE_of hs2
  have hn := (arrE_ok hae).2.1
  have hlen : (readsV S D Tt).length = (prod D).toNat := readsV_length _ _ _
  intro W b off cap da dl dc xa xc xs hW c0 c1 hd hx hxc
  have hn6 := (arrE_ok haL).2.2
  have hbk := lt_of_cell c0
  refine Do_good k x ea el ec es pa pl pc ps la ll lc lo ha hl hc hi ta tl tc st (some ⟨b, off, none⟩) 1 cap (fun _ => ⟨da, dl, dc, ds, xa, n, xc⟩) D (prod D).toNat (lookL xs (readsV S D Tt)) W (he.below hW) (hp.below hW) (hlo.below hW) (hhi.below hW) (hst.below hW) b0 b1 b2 b3 b4 (.inr ⟨b, off, rfl, fun j hj => by obtain rfl : j = 0 := by { omega }; exact ⟨c0, c1, hd⟩⟩) (by omega) ((doE_congr (fun j _ => ⟨rfl, rfl⟩)).trans hE) hs3.symm hN ((lookL_length _ _).trans hlen) (lookL_bd hx.2.2.1) ?_
  intro hpos W2 Z nz cz g hW2 hg _ _ hrow
  have hn0 : 0 < n := by
    obtain ⟨p, hp', _⟩ := hq 0 hpos
    omega
  have hWW := hW.trans (hW2.mono hW.size)
  exact work_look k x hk (.slice ea el ec) (.slice pa pl pc) (.slice la ll lc) (.slice ha hl hc) (.slice ta tl tc) Z nz cz g (prod D).toNat b off 1 cap (.slice da dl dc) xa n xc xs (readsV S D Tt) W2 (by omega) ((hW2.cell (p := ⟨b, off, none⟩) (lt_of_cell c0)).trans c0) ((hW2.cell (p := ⟨b, off + 1, none⟩) (lt_of_cell c1)).trans c1) (hx.below hW2) (off_new (W := W) hx hn0 hg) hrow (by omega) hlen (fun i hi => by
      obtain ⟨p, hp', e⟩ := hq i hi
      rw [e]; omega) (fun W3 hW3 => lookedAt_gen k x (.slice ea el ec) (.slice pa pl pc) (.slice la ll lc) (.slice ha hl hc) (.slice ta tl tc) da dl dc (.slice xa n xc) S D Tt W3 (fun W4 hW4 => by
        have h3 := hWW.trans (hW3.mono hWW.size)
        have h4 := h3.trans (hW4.mono h3.size)
        have g3 := hW2.trans (hW3.mono hW2.size)
        exact hseen W4 da dl dc h4 (hd.1.below (g3.trans (hW4.mono g3.size)))) hwr)

theorem do_13 (x : Int) (ea : Option Addr) (el ec : Nat) (es : List Int) (pa : Option Addr) (pl pc : Nat) (ps : List Int) (la : Option Addr) (ll lc : Nat) (lo : List Int) (ha : Option Addr) (hl hc : Nat) (hi : List Int) (ta : Option Addr) (tl tc : Nat) (st : List Int) (ds : List Int) (n : Nat) (w : World)
    (he : Lst w ea el ec es) (hp : Lst w pa pl pc ps) (hlo : Lst w la ll lc lo) (hhi : Lst w ha hl hc hi) (hst : Lst w ta tl tc st) (b0 : el ≤ 1048576) (b1 : pl ≤ 1048576) (b2 : ll ≤ 1048576) (b3 : hl ≤ 1048576) (b4 : tl ≤ 1048576) (hE : doE 13 es ps lo hi st 1 (oneV ds n) = 0) : ∀ (W : World) (b off cap : Nat) (da : Option Addr) (dl dc : Nat) (xa : Option Addr) (xc : Nat) (xs : List Int), Below w.heap.size w W → W.cell? ⟨b, off, none⟩ = some (.slice da dl dc) → W.cell? ⟨b, off + 1, none⟩ = some (.slice xa n xc) → Lst W da dl dc ds → Ints W xa n xs → n ≤ xc → Calls Tryz.prog 9 #[.agg #[.int .i64 13, .slice ea el ec, .slice pa pl pc, .slice la ll lc, .slice ha hl hc, .slice ta tl tc, .int .i64 x], .slice (some ⟨b, off, none⟩) 1 cap] W fun e W' => DoesTo W (cutD ds lo hi st) (lookL xs (readsV (cutAcc 0 (stepsV ds) lo ds.length) (cutD ds lo hi st) (cutS (stepsV ds) st))) (prod (cutD ds lo hi st)).toNat e W' ∧ Below W.heap.size W W' := by
  obtain ⟨hae, hs1, _, _⟩ := oneV_parts hE
  have e0 : cutE 0 ds (stepsV ds) lo hi st = 0 := hs1
  obtain ⟨_, _, _, t4, t5⟩ := thr_cut e0
  have hL : (shapeP 13 es ps lo hi st [ds]).1 = cutD ds lo hi st := by
    show okL (cutE 0 ds (stepsV ds) lo hi st) (cutD ds lo hi st) = _
    rw [e0]; rfl
  refine do_look2 13 (by omega) x ea el ec es pa pl pc ps la ll lc lo ha hl hc hi ta tl tc st ds n (cutAcc 0 (stepsV ds) lo ds.length) (cutD ds lo hi st) (cutS (stepsV ds) st) w he hp hlo hhi hst b0 b1 b2 b3 b4 hE hL t4 (fun i hi' => ?_) (fun W da dl dc hW hd => ?_)
  · obtain ⟨p, h1, h2, _⟩ := t5 i hi'
    exact ⟨p, h1, h2⟩
  · refine (seen_cut 13 x da dl dc ds ea el ec es pa pl pc ps la ll lc lo ha hl hc hi ta tl tc st W hd (he.1.below hW) (hp.1.below hW) (hlo.1.below hW) (hhi.1.below hW) (hst.1.below hW) (arrE_ok hae).1 rfl).mono ?_
    rintro e W' ⟨⟨a, b, c', d, f, g, rfl, h1, h2, _⟩, hb⟩
    rw [e0] at h1 h2 ⊢
    exact ⟨⟨a, b, c', d, f, g, 0, rfl, h1, h2⟩, hb⟩

end Go.Proofs.YteoobeldmicjhaaGreat.V
namespace Go.Proofs.YteoobeldmicjhaaGreat.V
set_option maxRecDepth 20000
open Go.RowKit

set_option maxRecDepth 100000 in
set_option maxHeartbeats 2000000 in
theorem one_gen (k x : Int) (E1 E2 E3 E4 E5 : Value) (da : Option Addr) (dl dc : Nat) (xa : Option Addr) (n1 xc : Nat) (L F : List Int) (N : Nat) (w : World)
    (hS : ∀ (W : World) (b : Nat), Below w.heap.size w W → ArrAt W b (.slice da dl dc) (.slice xa n1 xc) → Calls Tryz.prog 9 #[.agg #[.int .i64 k, E1, E2, E3, E4, E5, .int .i64 x], .slice (some ⟨b, 0, none⟩) 1 1] W fun e W' => DoesTo W L F N e W' ∧ Below W.heap.size W W') :
    Calls Tryz.prog 12 #[.agg #[.int .i64 k, E1, E2, E3, E4, E5, .int .i64 x], .agg #[.slice da dl dc, .slice xa n1 xc]] w fun e w' =>
      (∃ (Z : Option Addr) (nz cz G : Nat), e = .returned (.tuple #[.agg #[.slice Z nz cz, .slice (some ⟨G, 0, none⟩) N N], .bool true]) ∧ (Ints w' Z nz L ∧ nz ≤ cz) ∧ Ints w' (some ⟨G, 0, none⟩) N F) ∧ Below w.heap.size w w' := by
  have HB1 := (Below.refl w.heap.size w).alloc (Nat.le_refl _) (.cells #[.int .i64 k, E1, E2, E3, E4, E5, .int .i64 x] 31)
  have HB2 := HB1.alloc HB1.size (.cells #[.slice da dl dc, .slice xa n1 xc] 25)
  have HB3 := HB2.alloc HB2.size (.cells #[.slice none 0 0, .slice none 0 0] 25)
  have HB4 := HB3.alloc HB3.size (.cells #[.slice da dl dc, .slice xa n1 xc] 25)
  have HB := hide HB4
  have b1 := ((OpAt.new w k E1 E2 E3 E4 E5 x).alloc (.cells #[.slice da dl dc, .slice xa n1 xc] 25)).alloc (.cells #[.slice none 0 0, .slice none 0 0] 25)
  have a1 := (ArrAt.new (w.alloc (.cells #[.int .i64 k, E1, E2, E3, E4, E5, .int .i64 x] 31)) (.slice da dl dc) (.slice xa n1 xc)).alloc (.cells #[.slice none 0 0, .slice none 0 0] 25)
  have a3 := (ArrAt.new ((w.alloc (.cells #[.int .i64 k, E1, E2, E3, E4, E5, .int .i64 x] 31)).alloc (.cells #[.slice da dl dc, .slice xa n1 xc] 25)) (.slice none 0 0) (.slice none 0 0)).alloc (.cells #[.slice da dl dc, .slice xa n1 xc] 25)
  have a4 := ArrAt.new (((w.alloc (.cells #[.int .i64 k, E1, E2, E3, E4, E5, .int .i64 x] 31)).alloc (.cells #[.slice da dl dc, .slice xa n1 xc] 25)).alloc (.cells #[.slice none 0 0, .slice none 0 0] 25)) (.slice da dl dc) (.slice xa n1 xc)
  simp only [World.size_alloc] at a1 a3 a4
  obtain ⟨o0, o1, o2, o3, o4, o5, o6⟩ := b1.cells
  obtain ⟨⟨p0, p1⟩, _⟩ := a1.cells
  have HA3 := hide a3
  have HS := hide (hS _ (w.heap.size + 1 + 1 + 1) HB.out a4)
  clear b1 a1 a3 a4 HB1 HB2 HB3 HB4 hS
  go_enter Tryz.func12, Tryz.ntmps12
  go_wp2_with (go_at_call 9; refine HS.out.mono ?_; rintro e w1 ⟨⟨Z, nz, cz, G, rfl, ⟨hi1, hnc⟩, hi2, hg⟩, hb⟩; have HI1 := hide hi1; have HNC := hide hnc; have HI2 := hide hi2; have HB7 := hide (Below.on HB.out hb); have HA7 := hide (HA3.out.below hb); have HA8 := hide (HA7.out.alloc (.cells #[.slice Z nz cz, .slice (some ⟨G, 0, none⟩) N N] 25)); have HB8 := hide (HB7.out.alloc HB7.out.size (.cells #[.slice Z nz cz, .slice (some ⟨G, 0, none⟩) N N] 25)); obtain ⟨⟨a0, a1⟩, fa0, fa1⟩ := HA8.out.cells; clear hi1 hi2 hnc hb p0 p1 o0 o1 o2 o3 o4 o5 o6 hg)
  obtain ⟨⟨u0, u1⟩, _⟩ := (HA8.out.put (.slice Z nz cz) (.slice (some ⟨G, 0, none⟩) N N)).cells
  have hl := HA7.out.lt
  have HBF := hide ((HB8.out.setCell (p := ⟨w.heap.size + 1 + 1, 0, none⟩) (by simp; omega) (.slice Z nz cz)).setCell (p := ⟨w.heap.size + 1 + 1, 1, none⟩) (by simp; omega) (.slice (some ⟨G, 0, none⟩) N N))
  refine bodyPost_ret (v := .tuple #[.agg #[.slice Z nz cz, .slice (some ⟨G, 0, none⟩) N N], .bool true]) (by simp [results, Tryz.results12, go_sem, u0, u1]) rfl ⟨⟨Z, nz, cz, G, rfl, ⟨?_, HNC.out⟩, ?_⟩, HBF.out⟩
  · exact ints_put_arr (HI1.out.below ((Below.refl _ _).alloc (Nat.le_refl _) _)) HA8.out (fun _ _ e => by cases e) (fun _ _ e => by cases e) _ _
  · exact ints_put_arr (HI2.out.below ((Below.refl _ _).alloc (Nat.le_refl _) _)) HA8.out (fun _ _ e => by cases e) (fun _ _ e => by cases e) _ _
end Go.Proofs.YteoobeldmicjhaaGreat.V
namespace Go.Proofs.YteoobeldmicjhaaGreat.V
set_option maxRecDepth 20000
open Go.RowKit

/-- Where the entries of array s begin in a stretch. -/
def beg (lg : Nat → Nat) : Nat → Nat
  | 0 => 0
  | s + 1 => beg lg s + lg s
theorem beg_mono (lg : Nat → Nat) : ∀ {s t : Nat}, s ≤ t → beg lg s ≤ beg lg t
  | s, 0, h => by have : s = 0 := by omega
                  subst this; exact Nat.le_refl _
  | s, t + 1, h => by
    by_cases e : s = t + 1
    · subst e; exact Nat.le_refl _
    · have := beg_mono lg (s := s) (t := t) (by omega)
      rw [beg]; omega
/-- An entry of the first s arrays. -/
def jF (X : Nat → List Int) (lg : Nat → Nat) : Nat → Nat → Nat → Int
  | 0, _, _ => 0
  | s + 1, r, o => if beg lg s ≤ o ∧ o < beg lg s + lg s then (X s)[r * lg s + (o - beg lg s)]?.getD 0 else jF X lg s r o
/-- What has come of s arrays, and of t stretches of the next one. -/
def jL (X : Nat → List Int) (lg : Nat → Nat) (W N s t : Nat) : List Int := (List.range N).map fun j => if beg lg s ≤ j % W ∧ j % W < beg lg s + lg s ∧ j / W < t then (X s)[j / W * lg s + (j % W - beg lg s)]?.getD 0 else jF X lg s (j / W) (j % W)
theorem jL_length (X : Nat → List Int) (lg : Nat → Nat) (W N s t : Nat) : (jL X lg W N s t).length = N := by simp [jL]
theorem jL_at (X : Nat → List Int) (lg : Nat → Nat) (W N s t j : Nat) (h : j < N) : (jL X lg W N s t)[j]?.getD 0 = if beg lg s ≤ j % W ∧ j % W < beg lg s + lg s ∧ j / W < t then (X s)[j / W * lg s + (j % W - beg lg s)]?.getD 0 else jF X lg s (j / W) (j % W) := by simp [jL, h]
theorem jL_zero (X : Nat → List Int) (lg : Nat → Nat) (W N s j : Nat) (h : j < N) : (jL X lg W N s 0)[j]?.getD 0 = jF X lg s (j / W) (j % W) := by
  rw [jL_at _ _ _ _ _ _ _ h, if_neg (fun h => Nat.not_lt_zero _ h.2.2)]
theorem jL_all {X : Nat → List Int} {lg : Nat → Nat} {W N s f j : Nat} (hN : N = f * W) (h : j < N) : (jL X lg W N s f)[j]?.getD 0 = (jL X lg W N (s + 1) 0)[j]?.getD 0 := by
  have hd : j / W < f := Nat.div_lt_of_lt_mul (by rw [Nat.mul_comm, ← hN]; exact h)
  rw [jL_zero _ _ _ _ _ _ h, jL_at _ _ _ _ _ _ _ h, jF]
  by_cases c : beg lg s ≤ j % W ∧ j % W < beg lg s + lg s
  · rw [if_pos ⟨c.1, c.2, hd⟩, if_pos c]
  · rw [if_neg (fun h => c ⟨h.1, h.2.1⟩), if_neg c]
theorem jL_none {X : Nat → List Int} {lg : Nat → Nat} {W N s t j : Nat} (h0 : lg s = 0) (h : j < N) : (jL X lg W N s t)[j]?.getD 0 = (jL X lg W N (s + 1) 0)[j]?.getD 0 := by
  rw [jL_zero _ _ _ _ _ _ h, jL_at _ _ _ _ _ _ _ h, jF, if_neg (by omega), if_neg (by omega)]
theorem jL_copy {X : Nat → List Int} {lg : Nat → Nat} {W N s t : Nat} (hW : beg lg s + lg s ≤ W) (ht : t * W + W ≤ N) (hx : t * lg s + lg s ≤ (X s).length) (j : Nat) (hj : j < N) :
    (copyL (jL X lg W N s t) (beg lg s + t * W) (sub (X s) (t * lg s) (lg s)))[j]?.getD 0 = (jL X lg W N s (t + 1))[j]?.getD 0 := by
  have hsl : (sub (X s) (t * lg s) (lg s)).length = lg s := by simp [sub]; omega
  rw [copyL_at _ _ _ (by rw [hsl, jL_length]; omega), hsl, jL_at _ _ _ _ _ _ _ hj, jL_at _ _ _ _ _ _ _ hj]
  by_cases h1 : beg lg s + t * W ≤ j ∧ j < beg lg s + t * W + lg s
  · obtain ⟨d, hd⟩ : ∃ d, j = t * W + (beg lg s + d) := ⟨j - (beg lg s + t * W), by omega⟩
    have hdl : d < lg s := by omega
    have e1 : j / W = t := by rw [hd, row_div _ _ _ (by omega)]
    have e2 : j % W = beg lg s + d := by rw [hd, row_mod _ _ _ (by omega)]
    rw [if_pos h1, if_pos ⟨by omega, by omega, by omega⟩, sub_at _ _ _ _ (by omega), e1, e2]
    congr 2
    omega
  · rw [if_neg h1]
    by_cases h2 : beg lg s ≤ j % W ∧ j % W < beg lg s + lg s ∧ j / W < t
    · rw [if_pos h2, if_pos ⟨h2.1, h2.2.1, by omega⟩]
    · rw [if_neg h2]
      by_cases h3 : beg lg s ≤ j % W ∧ j % W < beg lg s + lg s ∧ j / W < t + 1
      · exfalso
        have e : j / W = t := by
          have : ¬ j / W < t := fun h => h2 ⟨h3.1, h3.2.1, h⟩
          omega
        have := Nat.div_add_mod j W
        rw [e, Nat.mul_comm] at this
        exact h1 ⟨by omega, by omega⟩
      · rw [if_neg h3]
end Go.Proofs.YteoobeldmicjhaaGreat.V
namespace Go.Proofs.YteoobeldmicjhaaGreat.V
set_option maxRecDepth 20000
open Go.RowKit

end Go.Proofs.YteoobeldmicjhaaGreat.V
namespace Go.Proofs.YteoobeldmicjhaaGreat.V
set_option maxRecDepth 20000
open Go.RowKit

end Go.Proofs.YteoobeldmicjhaaGreat.V
