/-
  Contracts: array.Do of a Dot of two matrices, and of a Turn of one.
-/
import Derived.Test.YtoagnhppjlcpkaaGreatRGArrCopy
import Derived.Test.YtoagnhppjlcpkaaGreatRGArrWork
import Derived.Test.YtoagnhppjlcpkaaGreatRGArrWrap
import Derived.Test.YtoagnhppjlcpkaaGreatRGArrDoBad
namespace Go.Proofs.YtoagnhppjlcpkaaGreat.V
set_option maxRecDepth 20000
open Go.RowKit

theorem lst_none (w : World) : Lst w none 0 0 [] := ⟨ints_nil w, Nat.le_refl _, fun _ => rfl⟩
end Go.Proofs.YtoagnhppjlcpkaaGreat.V

/-
  Contracts: adjointlaw2.times, adjointlaw2.one of a Turn, adjointlaw2.alive.
-/
namespace Go.Proofs.YtoagnhppjlcpkaaGreat.V
set_option maxRecDepth 20000
open Go.RowKit

/-- One number in a block. -/
theorem ints_one {w : World} {B : Nat} (x : Int) (hx : -9223372036854775808 ≤ x ∧ x ≤ 9223372036854775807) (t : TypeId) (h : w.heap.size = B) : Ints (w.alloc (.cells #[.int .i64 x] t)) (some ⟨B, 0, none⟩) 1 [x] := by
  subst h
  refine ⟨rfl, by omega, by simpa using hx, .inr ⟨_, _, rfl, fun j hj => ?_⟩⟩
  obtain rfl : j = 0 := by omega
  simp

end Go.Proofs.YtoagnhppjlcpkaaGreat.V

/-
  What goes with sums and with products by a number.
-/
namespace Go.Proofs.YtoagnhppjlcpkaaGreat.V
set_option maxRecDepth 20000
open Go.RowKit

def Bnd (xs : List Int) : Prop := ∀ x ∈ xs, -9223372036854775808 ≤ x ∧ x ≤ 9223372036854775807
theorem sumN_delta (a : Nat) (c : Int) (x : Nat → Int) : ∀ n, sumN (fun j => (if a = j then c else 0) * x j) n = if a < n then c * x a else 0
  | 0 => by simp [sumN]
  | n + 1 => by
    rw [sumN, sumN_delta a c x n]
    by_cases e : a = n
    · subst e
      rw [if_neg (Nat.lt_irrefl a), if_pos rfl, if_pos (Nat.lt_succ_self a), Int.zero_add]
    · rw [if_neg e, Int.zero_mul, Int.add_zero]
      by_cases h : a < n
      · rw [if_pos h, if_pos (by omega)]
      · rw [if_neg h, if_neg (by omega)]
theorem bnd_at {xs : List Int} (h : Bnd xs) (i : Nat) : -9223372036854775808 ≤ xs[i]?.getD 0 ∧ xs[i]?.getD 0 ≤ 9223372036854775807 := by
  by_cases hi : i < xs.length
  · exact h _ (mem_getD xs i hi)
  · rw [List.getElem?_eq_none (by omega)]; simp
theorem list_map_range (l : List Int) (N : Nat) (h : l.length = N) : l = (List.range N).map fun i => l[i]?.getD 0 := by
  rw [← h, map_getD_range]
theorem addS_at {zs Q xs : List Int} (hz : Bnd zs) (i : Nat) (hi : i < zs.length) : ∀ k, (∀ j : Nat, j < k → 0 ≤ Q[j]?.getD 0 ∧ Q[j]?.getD 0 < (zs.length : Int)) → (addS zs Q xs k)[i]?.getD 0 = IntKind.i64.wrap (zs[i]?.getD 0 + sumN (fun j => (if Q[j]?.getD 0 = (i : Int) then 1 else 0) * xs[j]?.getD 0) k)
  | 0, _ => by
    have := bnd_at hz i
    rw [addS, sumN, Int.add_zero, wrap_in _ this.1 this.2]
  | k + 1, h => by
    have ih := addS_at (xs := xs) hz i hi k (fun j hj => h j (by omega))
    have hq := h k (by omega)
    rw [addS, sumN]
    by_cases e : Q[k]?.getD 0 = (i : Int)
    · rw [if_pos e, e, Int.toNat_natCast, List.getElem?_set_self (by rw [addS_length]; exact hi)]
      simp only [Option.getD_some]
      rw [ih, w64, wrap_addl, Int.one_mul, Int.add_assoc]
    · rw [if_neg e, List.getElem?_set_ne (by omega), ih, Int.zero_mul, Int.add_zero]
end Go.Proofs.YtoagnhppjlcpkaaGreat.V

/-
  What Do makes of one array, in what it makes go with sums.
-/
namespace Go.Proofs.YtoagnhppjlcpkaaGreat.V
set_option maxRecDepth 20000
open Go.RowKit

theorem dimsP_parts {k : Int} {es ps lo hi st : List Int} {xss : List (List Int)} (h : (dimsP k es ps lo hi st xss).2 = 0) : (shapeP k es ps lo hi st xss).2 = 0 ∧ sizeE (shapeP k es ps lo hi st xss).1 = 0 ∧ (dimsP k es ps lo hi st xss).1 = (shapeP k es ps lo hi st xss).1 := by
  unfold dimsP at h ⊢
  by_cases c1 : takesE k xss.length ≠ 0
  · rw [if_pos c1] at h; exact absurd h c1
  rw [if_neg c1] at h ⊢
  by_cases c2 : sizesE xss ≠ 0
  · rw [if_pos c2] at h; exact absurd h c2
  rw [if_neg c2] at h ⊢
  by_cases c3 : (shapeP k es ps lo hi st xss).2 ≠ 0
  · rw [if_pos c3] at h; exact absurd h c3
  rw [if_neg c3] at h ⊢
  by_cases c4 : sizeE (shapeP k es ps lo hi st xss).1 ≠ 0
  · rw [if_pos c4] at h; exact absurd h c4
  rw [if_neg c4]
  exact ⟨Decidable.not_not.1 c3, Decidable.not_not.1 c4, rfl⟩
theorem arrsE_congr {v v' : Nat → ArrV} : ∀ m, (∀ j, j < m → (v j).ds = (v' j).ds ∧ (v j).xl = (v' j).xl) → arrsE v m = arrsE v' m
  | 0, _ => rfl
  | m + 1, h => by rw [arrsE, arrsE, arrsE_congr m (fun j hj => h j (by omega)), (h m (by omega)).1, (h m (by omega)).2]
theorem doE_congr {k : Int} {es ps lo hi st : List Int} {m : Nat} {v v' : Nat → ArrV} (h : ∀ j, j < m → (v j).ds = (v' j).ds ∧ (v j).xl = (v' j).xl) : doE k es ps lo hi st m v = doE k es ps lo hi st m v' := by
  have hd : dimsOf m v = dimsOf m v' := by
    unfold dimsOf
    exact List.map_congr_left (fun j hj => (h j (by simpa using hj)).1)
  unfold doE
  rw [arrsE_congr m h, hd]
/-- One array, of which nothing but its dimensions and how many numbers it has is known. -/
def oneV (ds : List Int) (n : Nat) (_ : Nat) : ArrV := ⟨none, 0, 0, ds, none, n, 0⟩
theorem oneV_parts {k : Int} {es ps lo hi st ds : List Int} {n : Nat} (h : doE k es ps lo hi st 1 (oneV ds n) = 0) : arrE ds n = 0 ∧ (shapeP k es ps lo hi st [ds]).2 = 0 ∧ sizeE (shapeP k es ps lo hi st [ds]).1 = 0 ∧ (dimsP k es ps lo hi st [ds]).1 = (shapeP k es ps lo hi st [ds]).1 := by
  obtain ⟨_, c2, c3⟩ := doE_ok h
  exact ⟨arrsE_ok 1 c2 0 (by omega), dimsP_parts c3⟩

/-- What Do answers, where it tells no error. -/
def DoesTo (W : World) (L f : List Int) (N : Nat) (e : Ending) (W' : World) : Prop :=
  ∃ (Z : Option Addr) (nz cz G : Nat), e = .returned (.tuple #[.agg #[.slice Z nz cz, .slice (some ⟨G, 0, none⟩) N N], .int .i64 0]) ∧ (Ints W' Z nz L ∧ nz ≤ cz) ∧ Ints W' (some ⟨G, 0, none⟩) N f ∧ W.heap.size ≤ G
theorem arrE_of {L : List Int} (h : sizeE L = 0) : arrE L (prod L).toNat = 0 ∧ ((prod L).toNat : Int) = prod L := by
  have hp : 0 ≤ prod L := by
    rcases dims_cases h with ⟨_, _, h3⟩ | ⟨_, _, _, h4⟩ <;> omega
  have he : ((prod L).toNat : Int) = prod L := by omega
  refine ⟨?_, he⟩
  unfold arrE
  rw [if_neg (by rw [h]; simp), if_neg (by rw [size_prod h, he]; simp)]
theorem off_new {w W : World} {X : Option Addr} {n g : Nat} {xs : List Int} (h : Ints w X n xs) (hn : 0 < n) (hg : w.heap.size ≤ g) : OffG g X := fun b o e => by
  obtain ⟨b', o', e', hb', _⟩ := h.at hn
  rw [e] at e'; cases e'
  have := W.heap.size
  omega

end Go.Proofs.YtoagnhppjlcpkaaGreat.V

/-
  Dimensions of what goes with sums: what may be asked, and where entries lie.
-/
namespace Go.Proofs.YtoagnhppjlcpkaaGreat.V
set_option maxRecDepth 20000
open Go.RowKit

theorem cut_whole {ds lo hi st : List Int} (h1 : sizeE ds = 0) (hl : lensB ds.length lo hi st = true) (hb : anyBad ds lo hi st = false) : cutE 0 ds (stepsV ds) lo hi st = 0 := by
  have hbw : beyondB (cutAcc 0 (stepsV ds) lo ds.length) (cutS (stepsV ds) st) = false := by
    have ha := cutAcc_whole h1 hb ds.length (Nat.le_refl _)
    have h6 := (sizeE_ok h1).1
    refine far_of (by omega) fun x hx => ?_
    simp only [cutS, List.mem_map, List.mem_range, stepsV_len] at hx
    obtain ⟨k, hk, rfl⟩ := hx
    have h4 := badCut_false (of_anyBad_false hb k hk)
    have h5 := steps_bd h1 k
    have h7 : 0 ≤ st[k]?.getD 0 * (stepsV ds)[k]?.getD 0 := Int.mul_nonneg (by omega) h5.1
    have h8 : st[k]?.getD 0 * (stepsV ds)[k]?.getD 0 ≤ 4096 * 65536 := Int.mul_le_mul h4.2.2.2.2 h5.2 h5.1 (by omega)
    omega
  unfold cutE
  rw [if_neg (by simp [wrong_whole h1]), if_pos hl, if_neg (by rw [hb]; simp), if_neg (by rw [hbw]; simp)]

theorem mem_freeL {xs : List Int} : ∀ {n : Nat} {x : Int}, x ∈ freeL xs n ↔ ∃ k : Nat, k < n ∧ x = (k : Int) ∧ inB xs k = false
  | 0, x => by simp [freeL]
  | n + 1, x => by
    rw [freeL, List.mem_append, mem_freeL]
    constructor
    · rintro (⟨k, hk, h⟩ | h)
      · exact ⟨k, by omega, h⟩
      · by_cases c : inB xs n = true
        · rw [if_pos c] at h; cases h
        · rw [if_neg c] at h
          exact ⟨n, by omega, by simpa using h, by simpa using c⟩
    · rintro ⟨k, hk, h1, h2⟩
      by_cases e : k = n
      · subst e
        exact .inr (by rw [if_neg (by rw [h2]; simp)]; simpa using h1)
      · exact .inl ⟨k, by omega, h1, h2⟩
theorem inB_iff {xs : List Int} {k : Nat} : inB xs k = true ↔ (k : Int) ∈ xs := by simp [inB]
theorem inB_not {xs : List Int} {k : Nat} : inB xs k = false ↔ (k : Int) ∉ xs := by rw [← inB_iff]; simp
theorem freeL_congr {xs ys : List Int} : ∀ n, (∀ k : Nat, k < n → inB xs k = inB ys k) → freeL xs n = freeL ys n
  | 0, _ => rfl
  | n + 1, h => by rw [freeL, freeL, freeL_congr n (fun k hk => h k (by omega)), h n (by omega)]
theorem freeL_count : ∀ (n : Nat) (xs : List Int), xs.Nodup → (∀ x ∈ xs, 0 ≤ x ∧ x < n) → (freeL xs n).length + xs.length = n
  | 0, xs, _, h => by
    have : xs = [] := by
      cases xs with
      | nil => rfl
      | cons a l => have := h a (by simp); omega
    rw [this]; rfl
  | n + 1, xs, hn, h => by
    rw [freeL]
    by_cases c : inB xs n = true
    · rw [if_pos c, List.append_nil]
      have hm := inB_iff.1 c
      have ih := freeL_count n (xs.erase (n : Int)) (hn.erase _) (fun x hx => by
        have h1 := List.mem_of_mem_erase hx
        have h2 : x ≠ (n : Int) := ((hn.mem_erase_iff).1 hx).1
        have := h x h1
        omega)
      rw [List.length_erase_of_mem hm] at ih
      have hc : freeL xs n = freeL (xs.erase (n : Int)) n := freeL_congr n (fun k hk => by
        rw [Bool.eq_iff_iff, inB_iff, inB_iff, hn.mem_erase_iff]
        constructor
        · intro h; exact ⟨by omega, h⟩
        · intro h; exact h.2)
      have hp := List.length_pos_of_mem hm
      rw [hc]; omega
    · rw [if_neg c]
      have hnm : (n : Int) ∉ xs := fun h => c (inB_iff.2 h)
      have ih := freeL_count n xs hn (fun x hx => by
        have := h x hx
        have : x ≠ (n : Int) := fun e => hnm (e ▸ hx)
        omega)
      simp; omega
theorem rise_up {l : List Int} {n : Nat} (h : RiseOk l n) : RiseOk l (n + 1) := fun i hi => by
  have := h i hi
  exact ⟨this.1, by omega, this.2.2⟩
theorem rise_snoc {l : List Int} {n : Nat} (h : RiseOk l n) : RiseOk (l ++ [(n : Int)]) (n + 1) := fun i hi => by
  simp only [List.length_append, List.length_cons, List.length_nil] at hi
  by_cases e : i < l.length
  · have h1 := h i e
    rw [List.getElem?_append_left e]
    refine ⟨h1.1, by omega, fun h0 => ?_⟩
    rw [List.getElem?_append_left (by omega)]
    exact h1.2.2 h0
  · obtain rfl : i = l.length := by omega
    rw [List.getElem?_append_right (Nat.le_refl _)]
    simp only [Nat.sub_self, List.getElem?_cons_zero, Option.getD_some]
    refine ⟨by omega, by omega, fun h0 => ?_⟩
    rw [List.getElem?_append_left (by omega)]
    exact (h (l.length - 1) (by omega)).2.1
theorem freeL_rise (xs : List Int) : ∀ n, RiseOk (freeL xs n) n
  | 0 => fun i hi => by simp [freeL] at hi
  | n + 1 => by
    rw [freeL]
    by_cases c : inB xs n = true
    · rw [if_pos c, List.append_nil]; exact rise_up (freeL_rise xs n)
    · rw [if_neg c]; exact rise_snoc (freeL_rise xs n)
theorem rise_nodup {l : List Int} {n : Nat} (h : RiseOk l n) : l.Nodup := (once_iff.1 (once_of_rise h)).2
theorem taken_at (ds ps : List Int) (j : Nat) (h : j < ps.length) : (taken ds ps)[j]?.getD 0 = ds[(ps[j]?.getD 0).toNat]?.getD 0 := by simp [taken, h]
theorem taken_append (ds ps qs : List Int) : taken ds (ps ++ qs) = taken ds ps ++ taken ds qs := by simp [taken]

/-- Where the entries of what is summed go. -/
theorem sum_spread {ds ps : List Int} (hz : sizeE ds = 0) (hL : sizeE (taken ds (freeL ps ds.length)) = 0) : sprE 0 (taken ds (freeL ps ds.length)) (stepsV (taken ds (freeL ps ds.length))) ds (freeL ps ds.length) = 0 := by
  unfold sprE
  rw [if_neg (by rw [wrong_whole hL]; simp), if_neg (by rw [hz]; simp), if_pos ⟨(taken_length _ _).symm, (riseB_iff _ _).2 (freeL_rise _ _)⟩, if_neg]
  rw [anyMis_false (fun j hj => ?_)]
  · simp
  · unfold misAt
    rw [taken_at _ _ _ hj]
    simp

theorem of_anyPad_false {n : Nat} {lo hi st : List Int} (h : anyPad n lo hi st = false) (j : Nat) (hj : j < n) : (0 ≤ lo[j]?.getD 0 ∧ lo[j]?.getD 0 ≤ 4096) ∧ (0 ≤ hi[j]?.getD 0 ∧ hi[j]?.getD 0 ≤ 4096) ∧ 1 ≤ st[j]?.getD 0 ∧ st[j]?.getD 0 ≤ 4096 := by
  unfold anyPad at h
  rw [List.any_eq_false] at h
  have := h j (by simpa using hj)
  simp only [padBad, Bool.or_eq_true, decide_eq_true_eq] at this
  omega
theorem kept_pad {d l t : Int} (hd : 0 ≤ d) (ht : 1 ≤ t) : keptN l (l + (if 0 < d then (d - 1) * t + 1 else 0)) t = d := by
  unfold keptN
  by_cases h : 0 < d
  · rw [if_pos h]
    have e : l + ((d - 1) * t + 1) - l + t - 1 = t * d := by rw [Int.sub_mul, Int.one_mul, Int.mul_comm t d]; omega
    rw [e, Int.mul_ediv_cancel_left _ (by omega)]
  · rw [if_neg h]
    have : d = 0 := by omega
    subst this
    have e : l + 0 - l + t - 1 = t - 1 := by omega
    rw [e, Int.ediv_eq_zero_of_lt (by omega) (by omega)]
/-- What is padded is cut out again. -/
theorem pad_cut {ds lo hi st : List Int} (hz : sizeE ds = 0) (hl : lensB ds.length lo hi st = true) (hb : anyPad ds.length lo hi st = false) :
    lensB (padD ds lo hi st).length lo (endL (padD ds lo hi st) hi) st = true ∧ anyBad (padD ds lo hi st) lo (endL (padD ds lo hi st) hi) st = false ∧ cutD (padD ds lo hi st) lo (endL (padD ds lo hi st) hi) st = ds := by
  obtain ⟨l1, l2, l3⟩ := lensB_true.1 hl
  have hpl := padD_length ds lo hi st
  have he : ∀ j, j < ds.length → (endL (padD ds lo hi st) hi)[j]?.getD 0 = lo[j]?.getD 0 + (if 0 < ds[j]?.getD 0 then (ds[j]?.getD 0 - 1) * st[j]?.getD 0 + 1 else 0) := fun j hj => by
    rw [endL_at _ _ _ (by rw [hpl]; exact hj), padD_getD _ _ _ _ _ hj, padV]; omega
  have hd : ∀ j, j < ds.length → 0 ≤ ds[j]?.getD 0 := fun j hj => ((sizeE_ok hz).2.1 _ (mem_getD ds j hj)).1
  have hm : ∀ j, j < ds.length → 0 ≤ (if 0 < ds[j]?.getD 0 then (ds[j]?.getD 0 - 1) * st[j]?.getD 0 + 1 else 0) := fun j hj => by
    have := of_anyPad_false hb j hj
    split
    · have : 0 ≤ (ds[j]?.getD 0 - 1) * st[j]?.getD 0 := Int.mul_nonneg (by omega) (by omega)
      omega
    · omega
  refine ⟨?_, anyBad_false (fun j hj => ?_), ?_⟩
  · rw [lensB_true, hpl, endL_length, hpl]
    exact ⟨l1, rfl, l3⟩
  · rw [hpl] at hj
    have h1 := of_anyPad_false hb j hj
    have h2 := hm j hj
    unfold badAt badCut
    rw [he j hj, padD_getD _ _ _ _ _ hj, padV]
    simp only [Bool.or_eq_false_iff, decide_eq_false_iff_not]
    omega
  · unfold cutD
    rw [hpl]
    conv => rhs; rw [← map_getD_range ds]
    refine List.map_congr_left (fun j hj => ?_)
    have hj' : j < ds.length := by simpa using hj
    rw [he j hj', kept_pad (hd j hj') (of_anyPad_false hb j hj').2.2.1]

/-- How a Dot looks at an array is a turn. -/
theorem dot_perm {lo ps : List Int} {n : Nat} (h : Once (lo ++ ps) n) : PermOk (lo ++ freeL (lo ++ ps) n ++ ps) n := by
  obtain ⟨hb, hn⟩ := once_iff.1 h
  have hc := freeL_count n (lo ++ ps) hn hb
  have hlen : (lo ++ freeL (lo ++ ps) n ++ ps).length = n := by
    simp only [List.length_append] at hc ⊢; omega
  have hon : Once (lo ++ freeL (lo ++ ps) n ++ ps) n := by
    rw [once_iff]
    have hfb : ∀ x ∈ freeL (lo ++ ps) n, x ∉ lo ++ ps := fun x hx => by
      obtain ⟨k, _, rfl, hk⟩ := mem_freeL.1 hx
      exact inB_not.1 hk
    rw [List.nodup_append] at hn
    obtain ⟨n1, n2, n3⟩ := hn
    refine ⟨fun x hx => ?_, ?_⟩
    · rcases List.mem_append.1 hx with hx | hx
      · rcases List.mem_append.1 hx with hx | hx
        · exact hb x (List.mem_append_left _ hx)
        · exact freeL_bd _ _ x hx
      · exact hb x (List.mem_append_right _ hx)
    · rw [List.nodup_append, List.nodup_append]
      refine ⟨⟨n1, rise_nodup (freeL_rise _ _), fun a ha b hb' e => ?_⟩, n2, fun a ha b hb' e => ?_⟩
      · subst e; exact hfb a hb' (List.mem_append_left _ ha)
      · subst e
        rcases List.mem_append.1 ha with ha | ha
        · exact n3 a ha a hb' rfl
        · exact hfb a ha (List.mem_append_right _ hb')
  refine ⟨hlen, ?_⟩
  unfold Once at hon
  rw [hlen] at hon
  exact hon
end Go.Proofs.YtoagnhppjlcpkaaGreat.V

/-
  What Do makes of one array, kind by kind.
-/
namespace Go.Proofs.YtoagnhppjlcpkaaGreat.V
set_option maxRecDepth 20000
open Go.RowKit

end Go.Proofs.YtoagnhppjlcpkaaGreat.V

/-
  What Do makes of two arrays, in what it makes go with sums of the first one.
-/
namespace Go.Proofs.YtoagnhppjlcpkaaGreat.V
set_option maxRecDepth 20000
open Go.RowKit

/-- The three parts of a Dot's dimensions. -/
theorem dot_parts {lo ps ds : List Int} (h : onceB (lo ++ ps) ds.length = true) : PermOk (lo ++ freeL (lo ++ ps) ds.length ++ ps) ds.length ∧ prod ds = prod (taken ds lo) * prod (taken ds (freeL (lo ++ ps) ds.length)) * prod (taken ds ps) := by
  have hp := dot_perm ((onceB_iff _ _).1 h)
  refine ⟨hp, ?_⟩
  rw [← prod_perm (taken_perm hp), taken_append, taken_append, prod_append, prod_append]

end Go.Proofs.YtoagnhppjlcpkaaGreat.V

/-
  Contracts: array.Do of Take and of Put: just what is made.
-/
namespace Go.Proofs.YtoagnhppjlcpkaaGreat.V
set_option maxRecDepth 20000
open Go.RowKit

end Go.Proofs.YtoagnhppjlcpkaaGreat.V

/-
  Contracts: array.Do, kind by kind: just what is made.
-/
namespace Go.Proofs.YtoagnhppjlcpkaaGreat.V
set_option maxRecDepth 20000
open Go.RowKit

end Go.Proofs.YtoagnhppjlcpkaaGreat.V

/-
  Contract: adjointlaw2.alive.
-/
namespace Go.Proofs.YtoagnhppjlcpkaaGreat.V
set_option maxRecDepth 20000
open Go.RowKit

set_option maxRecDepth 100000 in
set_option maxHeartbeats 2000000 in
theorem alive2_any (w : World) : Calls Tryz.prog 10 #[] w fun e w' => e = .returned (.bool true) ∧ Below w.heap.size w w' := by
  have HB1 := (Below.refl w.heap.size w).alloc (Nat.le_refl _) (.cells #[.int .i64 2] 2)
  have HB2 := HB1.alloc HB1.size (.cells #[.int .i64 3] 2)
  have HB3 := HB2.alloc HB2.size (.cells #[.slice none 0 0, .slice (some ⟨w.heap.size, 0, none⟩) 1 1, .slice none 0 0, .slice (some ⟨w.heap.size + 1, 0, none⟩) 1 1] 28)
  have HB := hide HB3
  have i2 := ((ints_one 2 (by omega) 2 (w := w) (B := w.heap.size) rfl).below ((Below.refl _ _).alloc (Nat.le_refl _) (.cells #[.int .i64 3] 2))).below ((Below.refl _ _).alloc (Nat.le_refl _) (.cells #[.slice none 0 0, .slice (some ⟨w.heap.size, 0, none⟩) 1 1, .slice none 0 0, .slice (some ⟨w.heap.size + 1, 0, none⟩) 1 1] 28))
  have i3 := (ints_one 3 (by omega) 2 (w := (w.alloc (.cells #[.int .i64 2] 2))) (B := w.heap.size + 1) (by simp)).below ((Below.refl _ _).alloc (Nat.le_refl _) (.cells #[.slice none 0 0, .slice (some ⟨w.heap.size, 0, none⟩) 1 1, .slice none 0 0, .slice (some ⟨w.heap.size + 1, 0, none⟩) 1 1] 28))
  have f4 := FourAt.new (w := ((w.alloc (.cells #[.int .i64 2] 2)).alloc (.cells #[.int .i64 3] 2))) (B := w.heap.size + 1 + 1) (.slice none 0 0) (.slice (some ⟨w.heap.size, 0, none⟩) 1 1) (.slice none 0 0) (.slice (some ⟨w.heap.size + 1, 0, none⟩) 1 1) (by simp)
  obtain ⟨c0, c1, c2, c3⟩ := f4.cells
  have hS := Do_two 3 (.inl rfl) (w.heap.size + 1 + 1) 0 2 none 0 0 none 0 0 [] 1 (some ⟨w.heap.size, 0, none⟩) 1 [2] (some ⟨w.heap.size + 1, 0, none⟩) 1 [3] _ c0 c1 c2 c3 (ints_nil _) (ints_nil _) i2 i3 (by decide)
  have ht : twoL 3 [2] [3] 1 = [5] := by simp [twoL, twoV, List.range_succ, w64, wrap_in 5 (by omega) (by omega)]
  rw [ht] at hS
  have HS := hide hS
  clear i2 i3 f4 c0 c1 c2 c3 HB1 HB2 HB3 hS ht
  go_enter Tryz.func10, Tryz.ntmps10
  go_wp2_with (go_at_call 7; refine HS.out.mono ?_; rintro e w1 ⟨⟨g, G, rfl, hi1, hi2, hg1, hg2⟩, hb⟩; obtain ⟨b5, o5, e5, _, hc5⟩ := hi2.at (by omega); cases e5; have c5 := alloc_cell (o := .cells #[.slice (some ⟨g, 0, none⟩) 0 0, .slice (some ⟨G, 0, none⟩) 1 1] 28) (hc5 0 (by omega)); simp only [Nat.add_zero, List.getElem?_cons_zero, Option.getD_some] at c5; have HB5 := hide (Below.on HB.out hb); obtain ⟨⟨a0, a1⟩, _⟩ := (ArrAt.new w1 (.slice (some ⟨g, 0, none⟩) 0 0) (.slice (some ⟨G, 0, none⟩) 1 1)).cells; clear hi1 hi2 hb hc5 hg1 hg2)
  all_goals go_ret
  all_goals exact ⟨rfl, HB5.out.alloc HB5.out.size _⟩
end Go.Proofs.YtoagnhppjlcpkaaGreat.V

/-
  Mathematics of ArrayRows: taking rows and putting them go back and forth.
-/
namespace Go.Proofs.YtoagnhppjlcpkaaGreat.V
set_option maxRecDepth 20000
open Go.RowKit

theorem sumN_pick (c : Int) (x : Nat → Int) : ∀ n : Nat, sumN (fun r => if c = (r : Int) then x r else 0) n = if 0 ≤ c ∧ c < n then x c.toNat else 0
  | 0 => by rw [if_neg (by omega)]; rfl
  | n + 1 => by
    simp only [sumN]
    rw [sumN_pick c x n]
    by_cases h : c = (n : Int)
    · subst h
      rw [if_pos rfl, if_neg (by omega), if_pos (by omega)]
      simp
    · rw [if_neg h]
      by_cases h2 : 0 ≤ c ∧ c < n
      · rw [if_pos h2, if_pos (by omega)]; omega
      · rw [if_neg h2, if_neg (by omega)]; omega
end Go.Proofs.YtoagnhppjlcpkaaGreat.V

/-
  Contracts: array.Do of Fill, whatever the list of dimensions is; adjointlaw2.one0 of it.
-/
namespace Go.Proofs.YtoagnhppjlcpkaaGreat.V
set_option maxRecDepth 20000
open Go.RowKit

end Go.Proofs.YtoagnhppjlcpkaaGreat.V
