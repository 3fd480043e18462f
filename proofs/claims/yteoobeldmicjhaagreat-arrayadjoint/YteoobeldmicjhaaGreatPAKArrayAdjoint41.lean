/-
  Dimensions of what goes with sums: what may be asked, and where entries lie. What Do makes of one array, kind by kind. What Do makes of two arrays, in what it makes go with sums of the first one. Contracts: array.Do of Take and of Put: just what is made. Where rows can be taken they can be put back: the dimensions.
-/
import Derived.Test.YteoobeldmicjhaaGreatPAKArrayAdjoint40
namespace Go.Proofs.YteoobeldmicjhaaGreat.V
set_option maxRecDepth 20000
open Go.RowKit

theorem cut_whole {ds lo hi st : List Int} (h1 : sizeE ds = 0) (hl : lensB ds.length lo hi st = true) (hb : anyBad ds lo hi st = false) : cutE 0 ds (stepsV ds) lo hi st = 0 := by
  have hbw : beyondB (cutAcc 0 (stepsV ds) lo ds.length) (cutS (stepsV ds) st) = false := by
    have ha := cutAcc_whole h1 hb ds.length (Nat.le_refl _)
    have h6 := (sizeE_ok h1).1
    refine far_of (by omega) fun x hx => ?_
    simp only [cutS, List.mem_map, List.mem_range, stepsV_len] at hx
    obtain ⟨k, hk, rfl⟩ := hx
    have h4 := badCut_false (of_anyBad_false hb k hk)
    have h5 := steps_bd h1 k
    have h7 : 0 ≤ st[k]?.getD 0 * (stepsV ds)[k]?.getD 0 := Int.mul_nonneg (by omega) h5.1
    have h8 : st[k]?.getD 0 * (stepsV ds)[k]?.getD 0 ≤ 4096 * 65536 := Int.mul_le_mul h4.2.2.2.2 h5.2 h5.1 (by omega)
    omega
  unfold cutE
  rw [if_neg (by simp [wrong_whole h1]), if_pos hl, if_neg (by rw [hb]; simp), if_neg (by rw [hbw]; simp)]

theorem mem_freeL {xs : List Int} : ∀ {n : Nat} {x : Int}, x ∈ freeL xs n ↔ ∃ k : Nat, k < n ∧ x = (k : Int) ∧ inB xs k = false
  | 0, x => by simp [freeL]
  | n + 1, x => by
    rw [freeL, List.mem_append, mem_freeL]
    constructor
    · rintro (⟨k, hk, h⟩ | h)
      · exact ⟨k, by omega, h⟩
      · by_cases c : inB xs n = true
        · rw [if_pos c] at h; cases h
        · rw [if_neg c] at h
          exact ⟨n, by omega, by simpa using h, by simpa using c⟩
    · rintro ⟨k, hk, h1, h2⟩
      by_cases e : k = n
      · subst e
        exact .inr (by rw [if_neg (by rw [h2]; simp)]; simpa using h1)
      · exact .inl ⟨k, by omega, h1, h2⟩
theorem inB_iff {xs : List Int} {k : Nat} : inB xs k = true ↔ (k : Int) ∈ xs := by simp [inB]
theorem inB_not {xs : List Int} {k : Nat} : inB xs k = false ↔ (k : Int) ∉ xs := by rw [← inB_iff]; simp
theorem freeL_congr {xs ys : List Int} : ∀ n, (∀ k : Nat, k < n → inB xs k = inB ys k) → freeL xs n = freeL ys n
  | 0, _ => rfl
  | n + 1, h => by rw [freeL, freeL, freeL_congr n (fun k hk => h k (by omega)), h n (by omega)]
theorem freeL_count : ∀ (n : Nat) (xs : List Int), xs.Nodup → (∀ x ∈ xs, 0 ≤ x ∧ x < n) → (freeL xs n).length + xs.length = n
  | 0, xs, _, h => by
    have : xs = [] := by
      cases xs with
      | nil => rfl
      | cons a l => have := h a (by simp); omega
    rw [this]; rfl
  | n + 1, xs, hn, h => by
    rw [freeL]
    by_cases c : inB xs n = true
    · rw [if_pos c, List.append_nil]
      have hm := inB_iff.1 c
      have ih := freeL_count n (xs.erase (n : Int)) (hn.erase _) (fun x hx => by
        have h1 := List.mem_of_mem_erase hx
        have h2 : x ≠ (n : Int) := ((hn.mem_erase_iff).1 hx).1
        have := h x h1
        omega)
      rw [List.length_erase_of_mem hm] at ih
      have hc : freeL xs n = freeL (xs.erase (n : Int)) n := freeL_congr n (fun k hk => by
        rw [Bool.eq_iff_iff, inB_iff, inB_iff, hn.mem_erase_iff]
        constructor
        · intro h; exact ⟨by omega, h⟩
        · intro h; exact h.2)
      have hp := List.length_pos_of_mem hm
      rw [hc]; omega
    · rw [if_neg c]
      have hnm : (n : Int) ∉ xs := fun h => c (inB_iff.2 h)
      have ih := freeL_count n xs hn (fun x hx => by
        have := h x hx
        have : x ≠ (n : Int) := fun e => hnm (e ▸ hx)
        omega)
      simp; omega
theorem rise_up {l : List Int} {n : Nat} (h : RiseOk l n) : RiseOk l (n + 1) := fun i hi => by
  have := h i hi
  exact ⟨this.1, by omega, this.2.2⟩
theorem rise_snoc {l : List Int} {n : Nat} (h : RiseOk l n) : RiseOk (l ++ [(n : Int)]) (n + 1) := fun i hi => by
  simp only [List.length_append, List.length_cons, List.length_nil] at hi
  by_cases e : i < l.length
  · have h1 := h i e
    rw [List.getElem?_append_left e]
    refine ⟨h1.1, by omega, fun h0 => ?_⟩
    rw [List.getElem?_append_left (by omega)]
    exact h1.2.2 h0
  · obtain rfl : i = l.length := by omega
    rw [List.getElem?_append_right (Nat.le_refl _)]
    simp only [Nat.sub_self, List.getElem?_cons_zero, Option.getD_some]
    refine ⟨by omega, by omega, fun h0 => ?_⟩
    rw [List.getElem?_append_left (by omega)]
    exact (h (l.length - 1) (by omega)).2.1
theorem freeL_rise (xs : List Int) : ∀ n, RiseOk (freeL xs n) n
  | 0 => fun i hi => by simp [freeL] at hi
  | n + 1 => by
    rw [freeL]
    by_cases c : inB xs n = true
    · rw [if_pos c, List.append_nil]; exact rise_up (freeL_rise xs n)
    · rw [if_neg c]; exact rise_snoc (freeL_rise xs n)
theorem rise_nodup {l : List Int} {n : Nat} (h : RiseOk l n) : l.Nodup := (once_iff.1 (once_of_rise h)).2
theorem taken_at (ds ps : List Int) (j : Nat) (h : j < ps.length) : (taken ds ps)[j]?.getD 0 = ds[(ps[j]?.getD 0).toNat]?.getD 0 := by simp [taken, h]
theorem taken_append (ds ps qs : List Int) : taken ds (ps ++ qs) = taken ds ps ++ taken ds qs := by simp [taken]

/-- Where the entries of what is summed go. -/
theorem sum_spread {ds ps : List Int} (hz : sizeE ds = 0) (hL : sizeE (taken ds (freeL ps ds.length)) = 0) : sprE 0 (taken ds (freeL ps ds.length)) (stepsV (taken ds (freeL ps ds.length))) ds (freeL ps ds.length) = 0 := by
  unfold sprE
  rw [if_neg (by rw [wrong_whole hL]; simp), if_neg (by rw [hz]; simp), if_pos ⟨(taken_length _ _).symm, (riseB_iff _ _).2 (freeL_rise _ _)⟩, if_neg]
  rw [anyMis_false (fun j hj => ?_)]
  · simp
  · unfold misAt
    rw [taken_at _ _ _ hj]
    simp

theorem of_anyPad_false {n : Nat} {lo hi st : List Int} (h : anyPad n lo hi st = false) (j : Nat) (hj : j < n) : (0 ≤ lo[j]?.getD 0 ∧ lo[j]?.getD 0 ≤ 4096) ∧ (0 ≤ hi[j]?.getD 0 ∧ hi[j]?.getD 0 ≤ 4096) ∧ 1 ≤ st[j]?.getD 0 ∧ st[j]?.getD 0 ≤ 4096 := by
  unfold anyPad at h
  rw [List.any_eq_false] at h
  have := h j (by simpa using hj)
  simp only [padBad, Bool.or_eq_true, decide_eq_true_eq] at this
  omega
theorem kept_pad {d l t : Int} (hd : 0 ≤ d) (ht : 1 ≤ t) : keptN l (l + (if 0 < d then (d - 1) * t + 1 else 0)) t = d := by
  unfold keptN
  by_cases h : 0 < d
  · rw [if_pos h]
    have e : l + ((d - 1) * t + 1) - l + t - 1 = t * d := by rw [Int.sub_mul, Int.one_mul, Int.mul_comm t d]; omega
    rw [e, Int.mul_ediv_cancel_left _ (by omega)]
  · rw [if_neg h]
    have : d = 0 := by omega
    subst this
    have e : l + 0 - l + t - 1 = t - 1 := by omega
    rw [e, Int.ediv_eq_zero_of_lt (by omega) (by omega)]
/-- What is padded is cut out again. -/
theorem pad_cut {ds lo hi st : List Int} (hz : sizeE ds = 0) (hl : lensB ds.length lo hi st = true) (hb : anyPad ds.length lo hi st = false) :
    lensB (padD ds lo hi st).length lo (endL (padD ds lo hi st) hi) st = true ∧ anyBad (padD ds lo hi st) lo (endL (padD ds lo hi st) hi) st = false ∧ cutD (padD ds lo hi st) lo (endL (padD ds lo hi st) hi) st = ds := by
  obtain ⟨l1, l2, l3⟩ := lensB_true.1 hl
  have hpl := padD_length ds lo hi st
  have he : ∀ j, j < ds.length → (endL (padD ds lo hi st) hi)[j]?.getD 0 = lo[j]?.getD 0 + (if 0 < ds[j]?.getD 0 then (ds[j]?.getD 0 - 1) * st[j]?.getD 0 + 1 else 0) := fun j hj => by
    rw [endL_at _ _ _ (by rw [hpl]; exact hj), padD_getD _ _ _ _ _ hj, padV]; omega
  have hd : ∀ j, j < ds.length → 0 ≤ ds[j]?.getD 0 := fun j hj => ((sizeE_ok hz).2.1 _ (mem_getD ds j hj)).1
  have hm : ∀ j, j < ds.length → 0 ≤ (if 0 < ds[j]?.getD 0 then (ds[j]?.getD 0 - 1) * st[j]?.getD 0 + 1 else 0) := fun j hj => by
    have := of_anyPad_false hb j hj
    split
    · have : 0 ≤ (ds[j]?.getD 0 - 1) * st[j]?.getD 0 := Int.mul_nonneg (by omega) (by omega)
      omega
    · omega
  refine ⟨?_, anyBad_false (fun j hj => ?_), ?_⟩
  · rw [lensB_true, hpl, endL_length, hpl]
    exact ⟨l1, rfl, l3⟩
  · rw [hpl] at hj
    have h1 := of_anyPad_false hb j hj
    have h2 := hm j hj
    unfold badAt badCut
    rw [he j hj, padD_getD _ _ _ _ _ hj, padV]
    simp only [Bool.or_eq_false_iff, decide_eq_false_iff_not]
    omega
  · unfold cutD
    rw [hpl]
    conv => rhs; rw [← map_getD_range ds]
    refine List.map_congr_left (fun j hj => ?_)
    have hj' : j < ds.length := by simpa using hj
    rw [he j hj', kept_pad (hd j hj') (of_anyPad_false hb j hj').2.2.1]

/-- How a Dot looks at an array is a turn. -/
theorem dot_perm {lo ps : List Int} {n : Nat} (h : Once (lo ++ ps) n) : PermOk (lo ++ freeL (lo ++ ps) n ++ ps) n := by
  obtain ⟨hb, hn⟩ := once_iff.1 h
  have hc := freeL_count n (lo ++ ps) hn hb
  have hlen : (lo ++ freeL (lo ++ ps) n ++ ps).length = n := by
    simp only [List.length_append] at hc ⊢; omega
  have hon : Once (lo ++ freeL (lo ++ ps) n ++ ps) n := by
    rw [once_iff]
    have hfb : ∀ x ∈ freeL (lo ++ ps) n, x ∉ lo ++ ps := fun x hx => by
      obtain ⟨k, _, rfl, hk⟩ := mem_freeL.1 hx
      exact inB_not.1 hk
    rw [List.nodup_append] at hn
    obtain ⟨n1, n2, n3⟩ := hn
    refine ⟨fun x hx => ?_, ?_⟩
    · rcases List.mem_append.1 hx with hx | hx
      · rcases List.mem_append.1 hx with hx | hx
        · exact hb x (List.mem_append_left _ hx)
        · exact freeL_bd _ _ x hx
      · exact hb x (List.mem_append_right _ hx)
    · rw [List.nodup_append, List.nodup_append]
      refine ⟨⟨n1, rise_nodup (freeL_rise _ _), fun a ha b hb' e => ?_⟩, n2, fun a ha b hb' e => ?_⟩
      · subst e; exact hfb a hb' (List.mem_append_left _ ha)
      · subst e
        rcases List.mem_append.1 ha with ha | ha
        · exact n3 a ha a hb' rfl
        · exact hfb a ha (List.mem_append_right _ hb')
  refine ⟨hlen, ?_⟩
  unfold Once at hon
  rw [hlen] at hon
  exact hon
end Go.Proofs.YteoobeldmicjhaaGreat.V
namespace Go.Proofs.YteoobeldmicjhaaGreat.V
set_option maxRecDepth 20000
open Go.RowKit

end Go.Proofs.YteoobeldmicjhaaGreat.V
namespace Go.Proofs.YteoobeldmicjhaaGreat.V
set_option maxRecDepth 20000
open Go.RowKit

/-- The three parts of a Dot's dimensions. -/
theorem dot_parts {lo ps ds : List Int} (h : onceB (lo ++ ps) ds.length = true) : PermOk (lo ++ freeL (lo ++ ps) ds.length ++ ps) ds.length ∧ prod ds = prod (taken ds lo) * prod (taken ds (freeL (lo ++ ps) ds.length)) * prod (taken ds ps) := by
  have hp := dot_perm ((onceB_iff _ _).1 h)
  refine ⟨hp, ?_⟩
  rw [← prod_perm (taken_perm hp), taken_append, taken_append, prod_append, prod_append]

end Go.Proofs.YteoobeldmicjhaaGreat.V
namespace Go.Proofs.YteoobeldmicjhaaGreat.V
set_option maxRecDepth 20000
open Go.RowKit

end Go.Proofs.YteoobeldmicjhaaGreat.V
namespace Go.Proofs.YteoobeldmicjhaaGreat.V
set_option maxRecDepth 20000
open Go.RowKit

end Go.Proofs.YteoobeldmicjhaaGreat.V
