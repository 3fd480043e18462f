/-
  Contracts: array.Do of a Dot of two matrices, and of a Turn of one.
-/
import Derived.Test.YtoagnhppjlcpkaaGreatQGArrCopy
import Derived.Test.YtoagnhppjlcpkaaGreatQGArrWork
import Derived.Test.YtoagnhppjlcpkaaGreatQGArrWrap
import Derived.Test.YtoagnhppjlcpkaaGreatQGArrDoBad
namespace Go.Proofs.YtoagnhppjlcpkaaGreat.V
set_option maxRecDepth 20000
open Go.RowKit

theorem lst_none (w : World) : Lst w none 0 0 [] := ⟨ints_nil w, Nat.le_refl _, fun _ => rfl⟩
end Go.Proofs.YtoagnhppjlcpkaaGreat.V

/-
  Contracts: adjointlaw2.times, adjointlaw2.one of a Turn, adjointlaw2.alive.
-/
namespace Go.Proofs.YtoagnhppjlcpkaaGreat.V
set_option maxRecDepth 20000
open Go.RowKit

/-- One number in a block. -/
theorem ints_one {w : World} {B : Nat} (x : Int) (hx : -9223372036854775808 ≤ x ∧ x ≤ 9223372036854775807) (t : TypeId) (h : w.heap.size = B) : Ints (w.alloc (.cells #[.int .i64 x] t)) (some ⟨B, 0, none⟩) 1 [x] := by
  subst h
  refine ⟨rfl, by omega, by simpa using hx, .inr ⟨_, _, rfl, fun j hj => ?_⟩⟩
  obtain rfl : j = 0 := by omega
  simp

end Go.Proofs.YtoagnhppjlcpkaaGreat.V

/-
  What goes with sums and with products by a number.
-/
namespace Go.Proofs.YtoagnhppjlcpkaaGreat.V
set_option maxRecDepth 20000
open Go.RowKit

def Bnd (xs : List Int) : Prop := ∀ x ∈ xs, -9223372036854775808 ≤ x ∧ x ≤ 9223372036854775807
theorem bnd_at {xs : List Int} (h : Bnd xs) (i : Nat) : -9223372036854775808 ≤ xs[i]?.getD 0 ∧ xs[i]?.getD 0 ≤ 9223372036854775807 := by
  by_cases hi : i < xs.length
  · exact h _ (mem_getD xs i hi)
  · rw [List.getElem?_eq_none (by omega)]; simp
theorem list_map_range (l : List Int) (N : Nat) (h : l.length = N) : l = (List.range N).map fun i => l[i]?.getD 0 := by
  rw [← h, map_getD_range]
end Go.Proofs.YtoagnhppjlcpkaaGreat.V

/-
  What Do makes of one array, in what it makes go with sums.
-/
namespace Go.Proofs.YtoagnhppjlcpkaaGreat.V
set_option maxRecDepth 20000
open Go.RowKit

theorem dimsP_parts {k : Int} {es ps lo hi st : List Int} {xss : List (List Int)} (h : (dimsP k es ps lo hi st xss).2 = 0) : (shapeP k es ps lo hi st xss).2 = 0 ∧ sizeE (shapeP k es ps lo hi st xss).1 = 0 ∧ (dimsP k es ps lo hi st xss).1 = (shapeP k es ps lo hi st xss).1 := by
  unfold dimsP at h ⊢
  by_cases c1 : takesE k xss.length ≠ 0
  · rw [if_pos c1] at h; exact absurd h c1
  rw [if_neg c1] at h ⊢
  by_cases c2 : sizesE xss ≠ 0
  · rw [if_pos c2] at h; exact absurd h c2
  rw [if_neg c2] at h ⊢
  by_cases c3 : (shapeP k es ps lo hi st xss).2 ≠ 0
  · rw [if_pos c3] at h; exact absurd h c3
  rw [if_neg c3] at h ⊢
  by_cases c4 : sizeE (shapeP k es ps lo hi st xss).1 ≠ 0
  · rw [if_pos c4] at h; exact absurd h c4
  rw [if_neg c4]
  exact ⟨Decidable.not_not.1 c3, Decidable.not_not.1 c4, rfl⟩
theorem arrsE_congr {v v' : Nat → ArrV} : ∀ m, (∀ j, j < m → (v j).ds = (v' j).ds ∧ (v j).xl = (v' j).xl) → arrsE v m = arrsE v' m
  | 0, _ => rfl
  | m + 1, h => by rw [arrsE, arrsE, arrsE_congr m (fun j hj => h j (by omega)), (h m (by omega)).1, (h m (by omega)).2]
theorem doE_congr {k : Int} {es ps lo hi st : List Int} {m : Nat} {v v' : Nat → ArrV} (h : ∀ j, j < m → (v j).ds = (v' j).ds ∧ (v j).xl = (v' j).xl) : doE k es ps lo hi st m v = doE k es ps lo hi st m v' := by
  have hd : dimsOf m v = dimsOf m v' := by
    unfold dimsOf
    exact List.map_congr_left (fun j hj => (h j (by simpa using hj)).1)
  unfold doE
  rw [arrsE_congr m h, hd]
/-- One array, of which nothing but its dimensions and how many numbers it has is known. -/
def oneV (ds : List Int) (n : Nat) (_ : Nat) : ArrV := ⟨none, 0, 0, ds, none, n, 0⟩
theorem oneV_parts {k : Int} {es ps lo hi st ds : List Int} {n : Nat} (h : doE k es ps lo hi st 1 (oneV ds n) = 0) : arrE ds n = 0 ∧ (shapeP k es ps lo hi st [ds]).2 = 0 ∧ sizeE (shapeP k es ps lo hi st [ds]).1 = 0 ∧ (dimsP k es ps lo hi st [ds]).1 = (shapeP k es ps lo hi st [ds]).1 := by
  obtain ⟨_, c2, c3⟩ := doE_ok h
  exact ⟨arrsE_ok 1 c2 0 (by omega), dimsP_parts c3⟩

/-- What Do answers, where it tells no error. -/
def DoesTo (W : World) (L f : List Int) (N : Nat) (e : Ending) (W' : World) : Prop :=
  ∃ (Z : Option Addr) (nz cz G : Nat), e = .returned (.tuple #[.agg #[.slice Z nz cz, .slice (some ⟨G, 0, none⟩) N N], .int .i64 0]) ∧ (Ints W' Z nz L ∧ nz ≤ cz) ∧ Ints W' (some ⟨G, 0, none⟩) N f ∧ W.heap.size ≤ G
theorem arrE_of {L : List Int} (h : sizeE L = 0) : arrE L (prod L).toNat = 0 ∧ ((prod L).toNat : Int) = prod L := by
  have hp : 0 ≤ prod L := by
    rcases dims_cases h with ⟨_, _, h3⟩ | ⟨_, _, _, h4⟩ <;> omega
  have he : ((prod L).toNat : Int) = prod L := by omega
  refine ⟨?_, he⟩
  unfold arrE
  rw [if_neg (by rw [h]; simp), if_neg (by rw [size_prod h, he]; simp)]
theorem off_new {w W : World} {X : Option Addr} {n g : Nat} {xs : List Int} (h : Ints w X n xs) (hn : 0 < n) (hg : w.heap.size ≤ g) : OffG g X := fun b o e => by
  obtain ⟨b', o', e', hb', _⟩ := h.at hn
  rw [e] at e'; cases e'
  have := W.heap.size
  omega

end Go.Proofs.YtoagnhppjlcpkaaGreat.V

/-
  Dimensions of what goes with sums: what may be asked, and where entries lie.
-/
namespace Go.Proofs.YtoagnhppjlcpkaaGreat.V
set_option maxRecDepth 20000
open Go.RowKit

theorem cut_whole {ds lo hi st : List Int} (h1 : sizeE ds = 0) (hl : lensB ds.length lo hi st = true) (hb : anyBad ds lo hi st = false) : cutE 0 ds (stepsV ds) lo hi st = 0 := by
  have hbw : beyondB (cutAcc 0 (stepsV ds) lo ds.length) (cutS (stepsV ds) st) = false := by
    have ha := cutAcc_whole h1 hb ds.length (Nat.le_refl _)
    have h6 := (sizeE_ok h1).1
    refine far_of (by omega) fun x hx => ?_
    simp only [cutS, List.mem_map, List.mem_range, stepsV_len] at hx
    obtain ⟨k, hk, rfl⟩ := hx
    have h4 := badCut_false (of_anyBad_false hb k hk)
    have h5 := steps_bd h1 k
    have h7 : 0 ≤ st[k]?.getD 0 * (stepsV ds)[k]?.getD 0 := Int.mul_nonneg (by omega) h5.1
    have h8 : st[k]?.getD 0 * (stepsV ds)[k]?.getD 0 ≤ 4096 * 65536 := Int.mul_le_mul h4.2.2.2.2 h5.2 h5.1 (by omega)
    omega
  unfold cutE
  rw [if_neg (by simp [wrong_whole h1]), if_pos hl, if_neg (by rw [hb]; simp), if_neg (by rw [hbw]; simp)]

theorem mem_freeL {xs : List Int} : ∀ {n : Nat} {x : Int}, x ∈ freeL xs n ↔ ∃ k : Nat, k < n ∧ x = (k : Int) ∧ inB xs k = false
  | 0, x => by simp [freeL]
  | n + 1, x => by
    rw [freeL, List.mem_append, mem_freeL]
    constructor
    · rintro (⟨k, hk, h⟩ | h)
      · exact ⟨k, by omega, h⟩
      · by_cases c : inB xs n = true
        · rw [if_pos c] at h; cases h
        · rw [if_neg c] at h
          exact ⟨n, by omega, by simpa using h, by simpa using c⟩
    · rintro ⟨k, hk, h1, h2⟩
      by_cases e : k = n
      · subst e
        exact .inr (by rw [if_neg (by rw [h2]; simp)]; simpa using h1)
      · exact .inl ⟨k, by omega, h1, h2⟩
theorem inB_iff {xs : List Int} {k : Nat} : inB xs k = true ↔ (k : Int) ∈ xs := by simp [inB]
theorem inB_not {xs : List Int} {k : Nat} : inB xs k = false ↔ (k : Int) ∉ xs := by rw [← inB_iff]; simp
theorem rise_up {l : List Int} {n : Nat} (h : RiseOk l n) : RiseOk l (n + 1) := fun i hi => by
  have := h i hi
  exact ⟨this.1, by omega, this.2.2⟩
theorem rise_snoc {l : List Int} {n : Nat} (h : RiseOk l n) : RiseOk (l ++ [(n : Int)]) (n + 1) := fun i hi => by
  simp only [List.length_append, List.length_cons, List.length_nil] at hi
  by_cases e : i < l.length
  · have h1 := h i e
    rw [List.getElem?_append_left e]
    refine ⟨h1.1, by omega, fun h0 => ?_⟩
    rw [List.getElem?_append_left (by omega)]
    exact h1.2.2 h0
  · obtain rfl : i = l.length := by omega
    rw [List.getElem?_append_right (Nat.le_refl _)]
    simp only [Nat.sub_self, List.getElem?_cons_zero, Option.getD_some]
    refine ⟨by omega, by omega, fun h0 => ?_⟩
    rw [List.getElem?_append_left (by omega)]
    exact (h (l.length - 1) (by omega)).2.1
theorem freeL_rise (xs : List Int) : ∀ n, RiseOk (freeL xs n) n
  | 0 => fun i hi => by simp [freeL] at hi
  | n + 1 => by
    rw [freeL]
    by_cases c : inB xs n = true
    · rw [if_pos c, List.append_nil]; exact rise_up (freeL_rise xs n)
    · rw [if_neg c]; exact rise_snoc (freeL_rise xs n)
theorem taken_at (ds ps : List Int) (j : Nat) (h : j < ps.length) : (taken ds ps)[j]?.getD 0 = ds[(ps[j]?.getD 0).toNat]?.getD 0 := by simp [taken, h]
end Go.Proofs.YtoagnhppjlcpkaaGreat.V

/-
  What Do makes of one array, kind by kind.
-/
namespace Go.Proofs.YtoagnhppjlcpkaaGreat.V
set_option maxRecDepth 20000
open Go.RowKit

end Go.Proofs.YtoagnhppjlcpkaaGreat.V

/-
  What Do makes of two arrays, in what it makes go with sums of the first one.
-/
namespace Go.Proofs.YtoagnhppjlcpkaaGreat.V
set_option maxRecDepth 20000
open Go.RowKit

theorem prod_nn : ∀ l : List Int, (∀ x ∈ l, 0 ≤ x) → 0 ≤ prod l
  | [], _ => by simp [prod]
  | a :: l, h => Int.mul_nonneg (h a (by simp)) (prod_nn l (fun x hx => h x (by simp [hx])))
theorem size_nn {ds : List Int} (h : sizeE ds = 0) : ∀ x ∈ ds, 0 ≤ x := fun x hx => ((sizeE_ok h).2.1 x hx).1
theorem nat_prod {l : List Int} (h : ∀ x ∈ l, 0 ≤ x) : ∃ t : Nat, prod l = (t : Int) := ⟨(prod l).toNat, by have := prod_nn l h; omega⟩
end Go.Proofs.YtoagnhppjlcpkaaGreat.V

/-
  Contracts: array.Do of Take and of Put: just what is made.
-/
namespace Go.Proofs.YtoagnhppjlcpkaaGreat.V
set_option maxRecDepth 20000
open Go.RowKit

end Go.Proofs.YtoagnhppjlcpkaaGreat.V

/-
  Contracts: array.Do, kind by kind: just what is made.
-/
namespace Go.Proofs.YtoagnhppjlcpkaaGreat.V
set_option maxRecDepth 20000
open Go.RowKit

theorem do_look2 (k : Int) (hk : k = 9 ∨ k = 11 ∨ k = 13 ∨ k = 15) (x : Int) (ea : Option Addr) (el ec : Nat) (es : List Int) (pa : Option Addr) (pl pc : Nat) (ps : List Int) (la : Option Addr) (ll lc : Nat) (lo : List Int) (ha : Option Addr) (hl hc : Nat) (hi : List Int) (ta : Option Addr) (tl tc : Nat) (st : List Int) (ds : List Int) (n : Nat) (S : Int) (D Tt : List Int) (w : World)
    (he : Lst w ea el ec es) (hp : Lst w pa pl pc ps) (hlo : Lst w la ll lc lo) (hhi : Lst w ha hl hc hi) (hst : Lst w ta tl tc st) (b0 : el ≤ 1048576) (b1 : pl ≤ 1048576) (b2 : ll ≤ 1048576) (b3 : hl ≤ 1048576) (b4 : tl ≤ 1048576) (hE : doE k es ps lo hi st 1 (oneV ds n) = 0) (hL : (shapeP k es ps lo hi st [ds]).1 = D) (hwr : wrongE S D Tt = 0) (hq : ∀ i : Nat, i < (prod D).toNat → ∃ p : Nat, p < (prod ds).toNat ∧ (readsV S D Tt)[i]?.getD 0 = (p : Int))
    (hseen : ∀ (W : World) (da : Option Addr) (dl dc : Nat), Below w.heap.size w W → Ints W da dl ds → Calls Tryz.prog 54 #[.agg #[.int .i64 k, .slice ea el ec, .slice pa pl pc, .slice la ll lc, .slice ha hl hc, .slice ta tl tc, .int .i64 x], .slice da dl dc] W fun e W' => Seen S D Tt e W' ∧ Below W.heap.size W W') :
    ∀ (W : World) (b off cap : Nat) (da : Option Addr) (dl dc : Nat) (xa : Option Addr) (xc : Nat) (xs : List Int), Below w.heap.size w W → W.cell? ⟨b, off, none⟩ = some (.slice da dl dc) → W.cell? ⟨b, off + 1, none⟩ = some (.slice xa n xc) → Lst W da dl dc ds → Ints W xa n xs → n ≤ xc → Calls Tryz.prog 7 #[.agg #[.int .i64 k, .slice ea el ec, .slice pa pl pc, .slice la ll lc, .slice ha hl hc, .slice ta tl tc, .int .i64 x], .slice (some ⟨b, off, none⟩) 1 cap] W fun e W' => DoesTo W D (lookL xs (readsV S D Tt)) (prod D).toNat e W' ∧ Below W.heap.size W W' := by
  obtain ⟨hae, hs1, hs2, hs3⟩ := oneV_parts hE
  rw [hL] at hs2 hs3
  obtain ⟨haL, hN⟩ := arrE_of hs2
  have hn := (arrE_ok hae).2.1
  have hlen : (readsV S D Tt).length = (prod D).toNat := readsV_length _ _ _
  intro W b off cap da dl dc xa xc xs hW c0 c1 hd hx hxc
  have hn6 := (arrE_ok haL).2.2
  have hbk := lt_of_cell c0
  refine Do_good k x ea el ec es pa pl pc ps la ll lc lo ha hl hc hi ta tl tc st (some ⟨b, off, none⟩) 1 cap (fun _ => ⟨da, dl, dc, ds, xa, n, xc⟩) D (prod D).toNat (lookL xs (readsV S D Tt)) W (he.below hW) (hp.below hW) (hlo.below hW) (hhi.below hW) (hst.below hW) b0 b1 b2 b3 b4 (.inr ⟨b, off, rfl, fun j hj => by obtain rfl : j = 0 := by { omega }; exact ⟨c0, c1, hd⟩⟩) (by omega) ((doE_congr (fun j _ => ⟨rfl, rfl⟩)).trans hE) hs3.symm hN ((lookL_length _ _).trans hlen) (lookL_bd hx.2.2.1) ?_
  intro hpos W2 Z nz cz g hW2 hg _ _ hrow
  have hn0 : 0 < n := by
    obtain ⟨p, hp', _⟩ := hq 0 hpos
    omega
  have hWW := hW.trans (hW2.mono hW.size)
  exact work_look k x hk (.slice ea el ec) (.slice pa pl pc) (.slice la ll lc) (.slice ha hl hc) (.slice ta tl tc) Z nz cz g (prod D).toNat b off 1 cap (.slice da dl dc) xa n xc xs (readsV S D Tt) W2 (by omega) ((hW2.cell (p := ⟨b, off, none⟩) (lt_of_cell c0)).trans c0) ((hW2.cell (p := ⟨b, off + 1, none⟩) (lt_of_cell c1)).trans c1) (hx.below hW2) (off_new (W := W) hx hn0 hg) hrow (by omega) hlen (fun i hi => by
      obtain ⟨p, hp', e⟩ := hq i hi
      rw [e]; omega) (fun W3 hW3 => lookedAt_gen k x (.slice ea el ec) (.slice pa pl pc) (.slice la ll lc) (.slice ha hl hc) (.slice ta tl tc) da dl dc (.slice xa n xc) S D Tt W3 (fun W4 hW4 => by
        have h3 := hWW.trans (hW3.mono hWW.size)
        have h4 := h3.trans (hW4.mono h3.size)
        have g3 := hW2.trans (hW3.mono hW2.size)
        exact hseen W4 da dl dc h4 (hd.1.below (g3.trans (hW4.mono g3.size)))) hwr)

theorem do_13 (x : Int) (ea : Option Addr) (el ec : Nat) (es : List Int) (pa : Option Addr) (pl pc : Nat) (ps : List Int) (la : Option Addr) (ll lc : Nat) (lo : List Int) (ha : Option Addr) (hl hc : Nat) (hi : List Int) (ta : Option Addr) (tl tc : Nat) (st : List Int) (ds : List Int) (n : Nat) (w : World)
    (he : Lst w ea el ec es) (hp : Lst w pa pl pc ps) (hlo : Lst w la ll lc lo) (hhi : Lst w ha hl hc hi) (hst : Lst w ta tl tc st) (b0 : el ≤ 1048576) (b1 : pl ≤ 1048576) (b2 : ll ≤ 1048576) (b3 : hl ≤ 1048576) (b4 : tl ≤ 1048576) (hE : doE 13 es ps lo hi st 1 (oneV ds n) = 0) : ∀ (W : World) (b off cap : Nat) (da : Option Addr) (dl dc : Nat) (xa : Option Addr) (xc : Nat) (xs : List Int), Below w.heap.size w W → W.cell? ⟨b, off, none⟩ = some (.slice da dl dc) → W.cell? ⟨b, off + 1, none⟩ = some (.slice xa n xc) → Lst W da dl dc ds → Ints W xa n xs → n ≤ xc → Calls Tryz.prog 7 #[.agg #[.int .i64 13, .slice ea el ec, .slice pa pl pc, .slice la ll lc, .slice ha hl hc, .slice ta tl tc, .int .i64 x], .slice (some ⟨b, off, none⟩) 1 cap] W fun e W' => DoesTo W (cutD ds lo hi st) (lookL xs (readsV (cutAcc 0 (stepsV ds) lo ds.length) (cutD ds lo hi st) (cutS (stepsV ds) st))) (prod (cutD ds lo hi st)).toNat e W' ∧ Below W.heap.size W W' := by
  obtain ⟨hae, hs1, _, _⟩ := oneV_parts hE
  have e0 : cutE 0 ds (stepsV ds) lo hi st = 0 := hs1
  obtain ⟨_, _, _, t4, t5⟩ := thr_cut e0
  have hL : (shapeP 13 es ps lo hi st [ds]).1 = cutD ds lo hi st := by
    show okL (cutE 0 ds (stepsV ds) lo hi st) (cutD ds lo hi st) = _
    rw [e0]; rfl
  refine do_look2 13 (by omega) x ea el ec es pa pl pc ps la ll lc lo ha hl hc hi ta tl tc st ds n (cutAcc 0 (stepsV ds) lo ds.length) (cutD ds lo hi st) (cutS (stepsV ds) st) w he hp hlo hhi hst b0 b1 b2 b3 b4 hE hL t4 (fun i hi' => ?_) (fun W da dl dc hW hd => ?_)
  · obtain ⟨p, h1, h2, _⟩ := t5 i hi'
    exact ⟨p, h1, h2⟩
  · refine (seen_cut 13 x da dl dc ds ea el ec es pa pl pc ps la ll lc lo ha hl hc hi ta tl tc st W hd (he.1.below hW) (hp.1.below hW) (hlo.1.below hW) (hhi.1.below hW) (hst.1.below hW) (arrE_ok hae).1 rfl).mono ?_
    rintro e W' ⟨⟨a, b, c', d, f, g, rfl, h1, h2, _⟩, hb⟩
    rw [e0] at h1 h2 ⊢
    exact ⟨⟨a, b, c', d, f, g, 0, rfl, h1, h2⟩, hb⟩

end Go.Proofs.YtoagnhppjlcpkaaGreat.V

/-
  Mathematics of ArrayRows: taking rows and putting them go back and forth.
-/
namespace Go.Proofs.YtoagnhppjlcpkaaGreat.V
set_option maxRecDepth 20000
open Go.RowKit

end Go.Proofs.YtoagnhppjlcpkaaGreat.V

/-
  Contract: adjointlaw2.alive.
-/
namespace Go.Proofs.YtoagnhppjlcpkaaGreat.V
set_option maxRecDepth 20000
open Go.RowKit

set_option maxRecDepth 100000 in
set_option maxHeartbeats 2000000 in
theorem alive2_any (w : World) : Calls Tryz.prog 10 #[] w fun e w' => e = .returned (.bool true) ∧ Below w.heap.size w w' := by
  have HB1 := (Below.refl w.heap.size w).alloc (Nat.le_refl _) (.cells #[.int .i64 2] 2)
  have HB2 := HB1.alloc HB1.size (.cells #[.int .i64 3] 2)
  have HB3 := HB2.alloc HB2.size (.cells #[.slice none 0 0, .slice (some ⟨w.heap.size, 0, none⟩) 1 1, .slice none 0 0, .slice (some ⟨w.heap.size + 1, 0, none⟩) 1 1] 28)
  have HB := hide HB3
  have i2 := ((ints_one 2 (by omega) 2 (w := w) (B := w.heap.size) rfl).below ((Below.refl _ _).alloc (Nat.le_refl _) (.cells #[.int .i64 3] 2))).below ((Below.refl _ _).alloc (Nat.le_refl _) (.cells #[.slice none 0 0, .slice (some ⟨w.heap.size, 0, none⟩) 1 1, .slice none 0 0, .slice (some ⟨w.heap.size + 1, 0, none⟩) 1 1] 28))
  have i3 := (ints_one 3 (by omega) 2 (w := (w.alloc (.cells #[.int .i64 2] 2))) (B := w.heap.size + 1) (by simp)).below ((Below.refl _ _).alloc (Nat.le_refl _) (.cells #[.slice none 0 0, .slice (some ⟨w.heap.size, 0, none⟩) 1 1, .slice none 0 0, .slice (some ⟨w.heap.size + 1, 0, none⟩) 1 1] 28))
  have f4 := FourAt.new (w := ((w.alloc (.cells #[.int .i64 2] 2)).alloc (.cells #[.int .i64 3] 2))) (B := w.heap.size + 1 + 1) (.slice none 0 0) (.slice (some ⟨w.heap.size, 0, none⟩) 1 1) (.slice none 0 0) (.slice (some ⟨w.heap.size + 1, 0, none⟩) 1 1) (by simp)
  obtain ⟨c0, c1, c2, c3⟩ := f4.cells
  have hS := Do_two 3 (.inl rfl) (w.heap.size + 1 + 1) 0 2 none 0 0 none 0 0 [] 1 (some ⟨w.heap.size, 0, none⟩) 1 [2] (some ⟨w.heap.size + 1, 0, none⟩) 1 [3] _ c0 c1 c2 c3 (ints_nil _) (ints_nil _) i2 i3 (by decide)
  have ht : twoL 3 [2] [3] 1 = [5] := by simp [twoL, twoV, List.range_succ, w64, wrap_in 5 (by omega) (by omega)]
  rw [ht] at hS
  have HS := hide hS
  clear i2 i3 f4 c0 c1 c2 c3 HB1 HB2 HB3 hS ht
  go_enter Tryz.func10, Tryz.ntmps10
  go_wp2_with (go_at_call 7; refine HS.out.mono ?_; rintro e w1 ⟨⟨g, G, rfl, hi1, hi2, hg1, hg2⟩, hb⟩; obtain ⟨b5, o5, e5, _, hc5⟩ := hi2.at (by omega); cases e5; have c5 := alloc_cell (o := .cells #[.slice (some ⟨g, 0, none⟩) 0 0, .slice (some ⟨G, 0, none⟩) 1 1] 28) (hc5 0 (by omega)); simp only [Nat.add_zero, List.getElem?_cons_zero, Option.getD_some] at c5; have HB5 := hide (Below.on HB.out hb); obtain ⟨⟨a0, a1⟩, _⟩ := (ArrAt.new w1 (.slice (some ⟨g, 0, none⟩) 0 0) (.slice (some ⟨G, 0, none⟩) 1 1)).cells; clear hi1 hi2 hb hc5 hg1 hg2)
  all_goals go_ret
  all_goals exact ⟨rfl, HB5.out.alloc HB5.out.size _⟩
end Go.Proofs.YtoagnhppjlcpkaaGreat.V

/-
  Contracts: array.Do of Fill, whatever the list of dimensions is; adjointlaw2.one0 of it.
-/
namespace Go.Proofs.YtoagnhppjlcpkaaGreat.V
set_option maxRecDepth 20000
open Go.RowKit

end Go.Proofs.YtoagnhppjlcpkaaGreat.V
