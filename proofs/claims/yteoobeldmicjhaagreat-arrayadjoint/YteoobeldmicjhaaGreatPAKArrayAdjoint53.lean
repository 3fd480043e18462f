/-
  Plain mathematics: an index that is put together of two parts; Sum, entry by entry. Each way has its way back: the mathematics. Each way has its way back: the dimensions. Contracts: adjointref2.Do of Sum, Reform and Pad: just what is made.
-/
import Derived.Test.YteoobeldmicjhaaGreatPAKArrayAdjoint52
import Derived.Test.YteoobeldmicjhaaGreatPAKArrayAdjoint41
import Derived.Test.YteoobeldmicjhaaGreatPAKArrayAdjoint42
import Derived.Test.YteoobeldmicjhaaGreatPAKArrayAdjoint27
import Derived.Test.YteoobeldmicjhaaGreatPAKArrayAdjoint26
namespace Go.Proofs.YteoobeldmicjhaaGreat.V
set_option maxRecDepth 20000
open Go.RowKit

/-- The index whose numbers at P are vs, and at all others us. -/
def merge (dl : Nat) (P vs us : List Int) : List Int := setAll (setAll (List.replicate dl 0) P vs P.length) (freeL P dl) us (freeL P dl).length
theorem merge_length (dl : Nat) (P vs us : List Int) : (merge dl P vs us).length = dl := by unfold merge; rw [setAll_length, setAll_length, List.length_replicate]
theorem once_at {P : List Int} {n : Nat} (h : Once P n) (i : Nat) (hi : i < P.length) : 0 ≤ P[i]?.getD 0 ∧ P[i]?.getD 0 < n := (once_iff.1 h).1 _ (mem_getD P i hi)
theorem once_inj {P : List Int} {n : Nat} (h : Once P n) {i j : Nat} (hi : i < P.length) (hj : j < P.length) (e : P[i]?.getD 0 = P[j]?.getD 0) : i = j := by
  have hn := (once_iff.1 h).2
  rw [List.getElem?_eq_getElem hi, List.getElem?_eq_getElem hj] at e
  simp only [Option.getD_some] at e
  exact (List.getElem_inj hn).1 e
theorem free_once (P : List Int) (n : Nat) : Once (freeL P n) n := once_of_rise (freeL_rise P n)
theorem merge_free {dl : Nat} {P vs us : List Int} (k : Nat) (hk : k < (freeL P dl).length) : (merge dl P vs us)[((freeL P dl)[k]?.getD 0).toNat]?.getD 0 = us[k]?.getD 0 := by
  have hf := once_at (free_once P dl) k hk
  refine setAll_hit (by rw [setAll_length, List.length_replicate]; omega) rfl _ hk (fun i h1 h2 e => ?_)
  have hg := once_at (free_once P dl) i h2
  have := once_inj (free_once P dl) h2 hk (by omega)
  omega
theorem free_apart {P : List Int} {dl k a : Nat} (hk : k < (freeL P dl).length) (ha : a < P.length) : (freeL P dl)[k]?.getD 0 ≠ P[a]?.getD 0 := fun e => by
  obtain ⟨j, hj, e1, e2⟩ := mem_freeL.1 (mem_getD (freeL P dl) k hk)
  have h1 := mem_getD P a ha
  rw [← e, e1] at h1
  exact inB_not.1 e2 h1
theorem merge_in {dl : Nat} {P vs us : List Int} (hP : Once P dl) (a : Nat) (ha : a < P.length) : (merge dl P vs us)[(P[a]?.getD 0).toNat]?.getD 0 = vs[a]?.getD 0 := by
  have hf := once_at hP a ha
  unfold merge
  rw [setAll_miss _ (fun j hj e => ?_)]
  · refine setAll_hit (by rw [List.length_replicate]; omega) rfl _ ha (fun i h1 h2 e => ?_)
    have hg := once_at hP i h2
    have := once_inj hP h2 ha (by omega)
    omega
  · have hg := once_at (free_once P dl) j hj
    exact free_apart hj ha (by omega)
theorem part_cases {P : List Int} {dl : Nat} (d : Nat) (hd : d < dl) : (∃ a, a < P.length ∧ P[a]?.getD 0 = (d : Int)) ∨ (∃ k, k < (freeL P dl).length ∧ (freeL P dl)[k]?.getD 0 = (d : Int)) := by
  by_cases c : (d : Int) ∈ P
  · obtain ⟨a, ha, e⟩ := List.getElem_of_mem c
    exact .inl ⟨a, ha, by rw [List.getElem?_eq_getElem ha]; exact e⟩
  · obtain ⟨k, hk, e⟩ := List.getElem_of_mem (mem_freeL.2 ⟨d, hd, rfl, inB_not.2 c⟩)
    exact .inr ⟨k, hk, by rw [List.getElem?_eq_getElem hk]; exact e⟩
theorem merge_idx {ds P vs us : List Int} (hP : Once P ds.length) (hv : IdxOk (taken ds P) vs) (hu : IdxOk (taken ds (freeL P ds.length)) us) : IdxOk ds (merge ds.length P vs us) := fun d hd => by
  rcases part_cases (P := P) d hd with ⟨a, ha, e⟩ | ⟨k, hk, e⟩
  · have h1 := merge_in (vs := vs) (us := us) hP a ha
    have h2 := hv a (by rw [taken_length]; exact ha)
    rw [taken_at _ _ _ ha, e, Int.toNat_natCast] at h2
    rw [e, Int.toNat_natCast] at h1
    rw [h1]; exact h2
  · have h1 := merge_free (dl := ds.length) (P := P) (vs := vs) (us := us) k hk
    have h2 := hu k (by rw [taken_length]; exact hk)
    rw [taken_at _ _ _ hk, e, Int.toNat_natCast] at h2
    rw [e, Int.toNat_natCast] at h1
    rw [h1]; exact h2
theorem merge_eq {dl : Nat} {P vs us y : List Int} (hP : Once P dl) (hl : y.length = dl) (hv : ∀ a, a < P.length → y[(P[a]?.getD 0).toNat]?.getD 0 = vs[a]?.getD 0) (hu : ∀ k, k < (freeL P dl).length → y[((freeL P dl)[k]?.getD 0).toNat]?.getD 0 = us[k]?.getD 0) : merge dl P vs us = y := by
  refine list_at_ext (by rw [merge_length, hl]) (fun d hd => ?_)
  rw [hl] at hd
  rcases part_cases (P := P) d hd with ⟨a, ha, e⟩ | ⟨k, hk, e⟩
  · have h1 := merge_in (vs := vs) (us := us) hP a ha
    have h2 := hv a ha
    rw [e, Int.toNat_natCast] at h1 h2
    rw [h1, h2]
  · have h1 := merge_free (dl := dl) (P := P) (vs := vs) (us := us) k hk
    have h2 := hu k hk
    rw [e, Int.toNat_natCast] at h1 h2
    rw [h1, h2]
theorem size_part {ds P : List Int} {c : Int} (hz : sizeE ds = 0) (hl : P.length ≤ 6) (hb : ∀ y ∈ P, 0 ≤ y ∧ y < ds.length) (hp : prod ds = c * prod (taken ds P)) (hc : 1 ≤ c) : sizeE (taken ds P) = 0 := by
  have hm : ∀ x ∈ taken ds P, x ∈ ds := fun x hx => by
    simp only [taken, List.mem_map] at hx
    obtain ⟨y, hy, rfl⟩ := hx
    have := hb y hy
    exact mem_getD ds _ (by omega)
  obtain ⟨_, z2, z3, _⟩ := sizeE_ok hz
  unfold sizeE
  rw [if_neg (by rw [taken_length]; omega), if_neg ?_]
  · by_cases h0 : (0 : Int) ∈ taken ds P
    · rw [if_pos h0]
    · rw [if_neg h0, if_neg ?_]
      have h1 : ∀ x ∈ taken ds P, 1 ≤ x := fun x hx => by
        have := z2 x (hm x hx)
        have : x ≠ 0 := fun e => h0 (e ▸ hx)
        omega
      have h2 := prod_pos _ h1
      have h3 : 1 * prod (taken ds P) ≤ c * prod (taken ds P) := Int.mul_le_mul_of_nonneg_right hc (by omega)
      rcases dims_cases hz with ⟨_, _, e⟩ | ⟨_, _, e, _⟩ <;> omega
  · have : (taken ds P).any badDim = false := by
      rw [List.any_eq_false]
      intro x hx
      have := z2 x (hm x hx)
      simp [badDim]; omega
    rw [this]; simp

/-! ### Sum -/
theorem sum_entry {ds ps xs : List Int} {n i : Nat} (hz : sizeE ds = 0) (hr : RiseOk ps ds.length) (hs2 : sizeE (taken ds (freeL ps ds.length)) = 0) (hn : (n : Int) = prod ds) (hi' : i < (prod (taken ds (freeL ps ds.length))).toNat)
    (hqq : ∀ j, j < n → 0 ≤ (readsV 0 ds (sprS ds.length (stepsV (taken ds (freeL ps ds.length))) (freeL ps ds.length)))[j]?.getD 0 ∧ (readsV 0 ds (sprS ds.length (stepsV (taken ds (freeL ps ds.length))) (freeL ps ds.length)))[j]?.getD 0 < ((prod (taken ds (freeL ps ds.length))).toNat : Int)) :
    sizeE (taken ds ps) = 0 ∧ ∃ q : Nat → Nat, (∀ t : Nat, t < (prod (taken ds ps)).toNat → placeN ds (merge ds.length ps (dig (taken ds ps) t) (dig (taken ds (freeL ps ds.length)) i)) = (q t : Int) ∧ q t < n) ∧
      (addS (List.replicate (prod (taken ds (freeL ps ds.length))).toNat 0) (readsV 0 ds (sprS ds.length (stepsV (taken ds (freeL ps ds.length))) (freeL ps ds.length))) xs n)[i]?.getD 0 = accS (fun t => xs[q t]?.getD 0) (prod (taken ds ps)).toNat := by
  have hO := once_of_rise hr
  have hob := (once_iff.1 hO).1
  have h6 := (sizeE_ok hz).1
  have hpl : ps.length ≤ ds.length := by have := freeL_count ds.length ps (once_iff.1 hO).2 hob; omega
  have hpp : prod ds = prod (taken ds (freeL ps ds.length)) * prod (taken ds ps) := by
    have := (dot_parts (lo := []) (ps := ps) (ds := ds) ((onceB_iff _ _).2 hO)).2
    simpa [taken, prod] using this
  have hC : sizeE (taken ds ps) = 0 := size_part hz (by omega) hob hpp (by omega)
  refine ⟨hC, ?_⟩
  have hth := idx_spread (ds := taken ds (freeL ps ds.length)) (ps := freeL ps ds.length) hz (taken_length _ _).symm (freeL_rise ps ds.length) (anyMis_false (fun j hj => by unfold misAt; rw [taken_at _ _ _ hj]; simp))
  have hit : ∀ j, j < n → ((readsV 0 ds (sprS ds.length (stepsV (taken ds (freeL ps ds.length))) (freeL ps ds.length)))[j]?.getD 0 = (i : Int) ↔ (List.range (taken ds (freeL ps ds.length)).length).map (fun k => (dig ds j)[((freeL ps ds.length)[k]?.getD 0).toNat]?.getD 0) = dig (taken ds (freeL ps ds.length)) i) := fun j hj => reads_hit hth hs2 hi' (j := j) (by omega)
  rw [taken_length] at hit
  have hio : ∀ t : Nat, t < (prod (taken ds ps)).toNat → IdxOk ds (merge ds.length ps (dig (taken ds ps) t) (dig (taken ds (freeL ps ds.length)) i)) := fun t ht => merge_idx hO (dig_place hC ht).2 (dig_place hs2 hi').2
  have hdi : (dig (taken ds (freeL ps ds.length)) i).length = (freeL ps ds.length).length := by rw [dig_length, taken_length]
  have hch : ∀ t : Nat, ∃ p : Nat, t < (prod (taken ds ps)).toNat → placeN ds (merge ds.length ps (dig (taken ds ps) t) (dig (taken ds (freeL ps ds.length)) i)) = (p : Int) ∧ p < (prod ds).toNat ∧ dig ds p = merge ds.length ps (dig (taken ds ps) t) (dig (taken ds (freeL ps ds.length)) i) := fun t => by
    by_cases ht : t < (prod (taken ds ps)).toNat
    · obtain ⟨p, h1, h2, h3⟩ := place_nat hz (merge_length _ _ _ _) (hio t ht)
      exact ⟨p, fun _ => ⟨h1, h2, h3⟩⟩
    · exact ⟨0, fun h => absurd h ht⟩
  obtain ⟨q, hq⟩ : ∃ q : Nat → Nat, ∀ t : Nat, t < (prod (taken ds ps)).toNat → placeN ds (merge ds.length ps (dig (taken ds ps) t) (dig (taken ds (freeL ps ds.length)) i)) = (q t : Int) ∧ q t < (prod ds).toNat ∧ dig ds (q t) = merge ds.length ps (dig (taken ds ps) t) (dig (taken ds (freeL ps ds.length)) i) := ⟨fun t => Classical.choose (hch t), fun t => Classical.choose_spec (hch t)⟩
  clear hch
  refine ⟨q, fun t ht => ?_, addS_fiber hqq i hi' _ (fun t ht => ?_) (fun t t' ht ht' e => ?_) (fun j hj e => ?_)⟩
  · obtain ⟨h1, h2, _⟩ := hq t ht
    exact ⟨h1, by omega⟩
  · obtain ⟨_, h2, h3⟩ := hq t ht
    refine ⟨by omega, ?_⟩
    rw [hit _ (by omega), h3]
    refine list_at_ext (by simp; exact hdi.symm) (fun k hk => ?_)
    rw [hdi] at hk
    simp only [List.getElem?_map, List.getElem?_range hk, Option.map_some, Option.getD_some]
    exact merge_free k hk
  · have h1 := (hq t ht).2.2
    have h2 := (hq t' ht').2.2
    rw [e, h2] at h1
    have h3 : dig (taken ds ps) t = dig (taken ds ps) t' := by
      refine list_at_ext (by rw [dig_length, dig_length]) (fun a ha => ?_)
      rw [dig_length, taken_length] at ha
      rw [← merge_in (us := dig (taken ds (freeL ps ds.length)) i) hO a ha, ← merge_in (vs := dig (taken ds ps) t') (us := dig (taken ds (freeL ps ds.length)) i) hO a ha, h1]
    have a1 := (dig_place hC ht).1
    have a2 := (dig_place hC ht').1
    rw [h3, a2] at a1
    omega
  · have h1 := (hit j hj).1 e
    have hdj := dig_place hz (i := j) (by omega)
    have hti : IdxOk (taken ds ps) (taken (dig ds j) ps) := fun a ha => by
      rw [taken_length] at ha
      rw [taken_at _ _ _ ha, taken_at _ _ _ ha]
      have := once_at hO a ha
      exact hdj.2 _ (by omega)
    obtain ⟨t, t1, t2, t3⟩ := place_nat hC (by rw [taken_length, taken_length]) hti
    refine ⟨t, t2, ?_⟩
    have hm : merge ds.length ps (dig (taken ds ps) t) (dig (taken ds (freeL ps ds.length)) i) = dig ds j := merge_eq hO (dig_length _ _) (fun a ha => by rw [t3, taken_at _ _ _ ha]) (fun k hk => by
      rw [← h1]
      simp [hk])
    have h2 := (hq t t2).1
    rw [hm, hdj.1] at h2
    omega
end Go.Proofs.YteoobeldmicjhaaGreat.V
namespace Go.Proofs.YteoobeldmicjhaaGreat.V
set_option maxRecDepth 20000
open Go.RowKit

/-- What is looked at, times y, is what it is looked at in, times y put there. -/
theorem adj_core {M N : Nat} {xs R ys : List Int} (hR : ∀ j, j < N → 0 ≤ R[j]?.getD 0 ∧ R[j]?.getD 0 < (M : Int)) (hl : N ≤ R.length) : innS (lookL xs R) ys N = innS xs (addS (List.replicate M 0) R ys N) M := by
  rw [innS_sum, innS_sum]
  have h1 : IntKind.i64.wrap (sumN (fun j => xs[j]?.getD 0 * (addS (List.replicate M 0) R ys N)[j]?.getD 0) M) = IntKind.i64.wrap (sumN (fun j => xs[j]?.getD 0 * sumN (fun t => (if R[t]?.getD 0 = (j : Int) then 1 else 0) * ys[t]?.getD 0) N) M) := by
    refine wrap_sum _ (fun j hj => ?_)
    rw [addS_at (fun x hx => by simp at hx; rw [hx.2]; omega) j (by simp; exact hj) N (fun j hj => by simpa using hR j hj), repl0_at, Int.zero_add, wrap_mulr]
  rw [h1]
  congr 1
  have h2 : ∀ j : Nat, xs[j]?.getD 0 * sumN (fun t => (if R[t]?.getD 0 = (j : Int) then 1 else 0) * ys[t]?.getD 0) N = sumN (fun t => if R[t]?.getD 0 = (j : Int) then xs[j]?.getD 0 * ys[t]?.getD 0 else 0) N := fun j => by
    rw [sumN_mull]
    refine sumN_ext _ (fun t _ => ?_)
    split <;> simp
  rw [sumN_ext M (fun j _ => h2 j), sumN_swap]
  refine sumN_ext N (fun t ht => ?_)
  rw [sumN_pick (R[t]?.getD 0) (fun j => xs[j]?.getD 0 * ys[t]?.getD 0) M, if_pos (hR t ht), lookL_at _ _ _ (by omega)]

theorem innS_ext {xs ys zs : List Int} (n : Nat) (h : ∀ j, j < n → ys[j]?.getD 0 = zs[j]?.getD 0) : innS xs ys n = innS xs zs n := by
  rw [innS_sum, innS_sum, sumN_ext n (fun j hj => by rw [h j hj])]
theorem innS_comm (xs ys : List Int) (n : Nat) : innS xs ys n = innS ys xs n := by
  rw [innS_sum, innS_sum, sumN_ext n (fun j _ => Int.mul_comm _ _)]

/-- Two ways of looking that undo each other. -/
theorem adj_perm {n : Nat} {xs R R' ys : List Int} (hl : R.length = n) (hl' : R'.length = n) (h1 : ∀ i, i < n → ∃ p : Nat, p < n ∧ R'[i]?.getD 0 = (p : Int) ∧ R[p]?.getD 0 = (i : Int)) (h2 : ∀ i, i < n → ∃ p : Nat, p < n ∧ R[i]?.getD 0 = (p : Int) ∧ R'[p]?.getD 0 = (i : Int)) (hy : ∀ y ∈ ys, -9223372036854775808 ≤ y ∧ y ≤ 9223372036854775807) :
    innS (lookL xs R) ys n = innS xs (lookL ys R') n := by
  have hR : ∀ j, j < n → 0 ≤ R[j]?.getD 0 ∧ R[j]?.getD 0 < (n : Int) := fun j hj => by
    obtain ⟨p, hp, e, _⟩ := h2 j hj
    omega
  rw [adj_core hR (by omega)]
  refine innS_ext n (fun j hj => ?_)
  obtain ⟨p, hp, e, e'⟩ := h1 j hj
  rw [addS_fiber (NC := 1) hR j hj (fun _ => p) (fun t _ => ⟨hp, e'⟩) (fun t t' h h' _ => by omega) (fun i hi hij => ⟨0, by omega, by
    obtain ⟨q, hq, q1, q2⟩ := h2 i hi
    have hqj : q = j := by omega
    subst hqj
    omega⟩), lookL_at _ _ _ (by omega), e, accS_sum, Int.toNat_natCast]
  simp only [sumN, Int.zero_add]
  have hb : -9223372036854775808 ≤ ys[p]?.getD 0 ∧ ys[p]?.getD 0 ≤ 9223372036854775807 := by
    by_cases c : p < ys.length
    · exact hy _ (mem_getD ys p c)
    · rw [List.getElem?_eq_none (by omega)]; simp
  exact wrap_in _ hb.1 hb.2

/-- A turn, and the turn back. -/
theorem taken_inv {xs ps : List Int} (hp : PermOk ps xs.length) : taken (taken xs (invL ps)) ps = xs := by
  have hl := hp.1
  refine list_at_ext (by rw [taken_length, hl]) (fun k hk => ?_)
  obtain ⟨h0, h1, _⟩ := hp.2 k hk
  obtain ⟨m, hm⟩ : ∃ m : Nat, ps[k]?.getD 0 = (m : Int) := ⟨(ps[k]?.getD 0).toNat, by omega⟩
  obtain ⟨i, hi, e1, e2⟩ := perm_at hp m (by omega)
  have hik : i = k := perm_inj hp hi hk (e2.trans hm.symm)
  subst hik
  rw [taken_at _ _ _ (by omega), hm, Int.toNat_natCast, taken_at _ _ _ (by rw [invL_length]; omega), invL_getD _ _ (by omega), hl, e1, Int.toNat_natCast]
theorem turn_maps {ds ps : List Int} (hz : sizeE ds = 0) (hp : PermOk ps ds.length) :
    (∀ i, i < (prod ds).toNat → ∃ p : Nat, p < (prod ds).toNat ∧ (readsV 0 ds (taken (stepsV (taken ds ps)) (invL ps)))[i]?.getD 0 = (p : Int) ∧ (readsV 0 (taken ds ps) (taken (stepsV ds) ps))[p]?.getD 0 = (i : Int)) ∧
    (∀ i, i < (prod ds).toNat → ∃ p : Nat, p < (prod ds).toNat ∧ (readsV 0 (taken ds ps) (taken (stepsV ds) ps))[i]?.getD 0 = (p : Int) ∧ (readsV 0 ds (taken (stepsV (taken ds ps)) (invL ps)))[p]?.getD 0 = (i : Int)) := by
  have hpm := taken_perm hp
  have hzL : sizeE (taken ds ps) = 0 := by rw [sizeE_perm hpm]; exact hz
  have hpr : prod (taken ds ps) = prod ds := prod_perm hpm
  have hl := hp.1
  have hsl : (stepsV ds).length = ds.length := by simp [stepsV]
  have hLl : (taken ds ps).length = ds.length := by rw [taken_length, hl]
  have hsL : (stepsV (taken ds ps)).length = ds.length := by simp [stepsV, hLl]
  have hpi : PermOk (invL ps) (taken ds ps).length := by rw [hLl]; exact invL_perm hp
  have hb : taken (taken ds ps) (invL ps) = ds := taken_back hp
  constructor
  · intro i hi
    have ht := through_of (s := 0) (ss := taken (stepsV ds) ps) (by rw [taken_length, hl, hLl]) (through_turn hzL hpi) i (by rw [hb]; exact hi)
    rw [hb, taken_back (xs := stepsV ds) (ps := ps) (by rw [hsl]; exact hp)] at ht
    obtain ⟨p, h1, h2, h3⟩ := ht
    refine ⟨p, by rw [← hpr]; exact h1, h2, ?_⟩
    rw [← h3]
    exact readsV_whole (pos_of hz hi) i hi
  · intro i hi
    have ht := through_of (s := 0) (ss := taken (stepsV (taken ds ps)) (invL ps)) (by rw [taken_length, invL_length, hl]) (through_turn hz hp) i (by rw [hpr]; exact hi)
    rw [taken_inv (xs := stepsV (taken ds ps)) (ps := ps) (by rw [hsL]; exact hp)] at ht
    obtain ⟨p, h1, h2, h3⟩ := ht
    refine ⟨p, h1, h2, ?_⟩
    rw [← h3]
    exact readsV_whole (pos_of hzL (by rw [hpr]; exact hi)) i (by rw [hpr]; exact hi)

/-- A flip undoes itself. -/
theorem flip_maps {ds ps : List Int} (hz : sizeE ds = 0) (hp : RiseOk ps ds.length) : ∀ i, i < (prod ds).toNat → ∃ p : Nat, p < (prod ds).toNat ∧ (readsV (flipAcc 0 ds (stepsV ds) ps ps.length) ds (flipL (stepsV ds) ps))[i]?.getD 0 = (p : Int) ∧ (readsV (flipAcc 0 ds (stepsV ds) ps ps.length) ds (flipL (stepsV ds) ps))[p]?.getD 0 = (i : Int) := by
  intro i hi
  have hE : flipE 0 ds (stepsV ds) ps = 0 := by rw [flip_whole ps hz, if_pos ((riseB_iff _ _).2 hp)]
  obtain ⟨_, f2, f3⟩ := flip_again hE
  have ht := through_of (s := flipAcc 0 ds (stepsV ds) ps ps.length) (ss := flipL (stepsV ds) ps) (by simp [flipL, stepsV]) (through_flip hz hp) i hi
  rw [f2, f3] at ht
  obtain ⟨p, h1, h2, h3⟩ := ht
  refine ⟨p, h1, h2, ?_⟩
  rw [← h3]
  exact readsV_whole (pos_of hz hi) i hi

/-- Those that are not among those that a rising list does not name are the list. -/
theorem rise_tail {x : Int} {l : List Int} {n : Nat} (h : RiseOk (x :: l) n) : RiseOk l n ∧ ∀ y ∈ l, x < y := by
  refine ⟨fun i hi => ?_, fun y hy => ?_⟩
  · obtain ⟨h1, h2, h3⟩ := h (i + 1) (by simp; omega)
    simp only [List.getElem?_cons_succ] at h1 h2 h3
    refine ⟨h1, h2, fun h0 => ?_⟩
    have := h3 (by omega)
    obtain ⟨k, rfl⟩ : ∃ k, i = k + 1 := ⟨i - 1, by omega⟩
    simpa using this
  · obtain ⟨k, hk, e⟩ := List.getElem_of_mem hy
    have := rise_lt h 0 (k + 1) (by omega) (by simp; omega)
    simp [hk] at this
    omega
theorem rise_filter {n k : Nat} : ∀ (l : List Int), RiseOk l n → l.filter (fun x => decide (x < ((k + 1 : Nat) : Int))) = l.filter (fun x => decide (x < (k : Int))) ++ (if (k : Int) ∈ l then [(k : Int)] else [])
  | [], _ => by simp
  | x :: l, h => by
    obtain ⟨h1, h2⟩ := rise_tail h
    have ih := rise_filter (k := k) l h1
    by_cases c : x < (k : Int)
    · have c' : x < ((k + 1 : Nat) : Int) := by omega
      have e : ((k : Int) ∈ x :: l) = ((k : Int) ∈ l) := by
        apply propext
        rw [List.mem_cons]
        exact ⟨fun q => q.resolve_left (by omega), .inr⟩
      rw [List.filter_cons_of_pos (by simpa using c'), List.filter_cons_of_pos (by simpa using c), ih, List.cons_append]
      simp only [e]
    · have hno : ∀ y ∈ l, ¬ y < ((k + 1 : Nat) : Int) := fun y hy => by have := h2 y hy; omega
      have f1 : l.filter (fun x => decide (x < ((k + 1 : Nat) : Int))) = [] := List.filter_eq_nil_iff.2 (fun y hy => by simpa using hno y hy)
      have f2 : l.filter (fun x => decide (x < (k : Int))) = [] := List.filter_eq_nil_iff.2 (fun y hy => by have := hno y hy; simp; omega)
      have f3 : (x :: l).filter (fun x => decide (x < (k : Int))) = [] := by rw [List.filter_cons_of_neg (by simpa using c), f2]
      rw [f3]
      by_cases c2 : x = (k : Int)
      · subst c2
        rw [List.filter_cons_of_pos (by simp; omega), f1]
        simp
      · have hk : (k : Int) ∉ x :: l := by
          rw [List.mem_cons]
          rintro (q | q)
          · exact c2 q.symm
          · have := h2 _ q; omega
        rw [List.filter_cons_of_neg (by simp; omega), f1, if_neg hk]
        simp
theorem freeL_twice {ps : List Int} {n : Nat} (hp : RiseOk ps n) : freeL (freeL ps n) n = ps := by
  have key : ∀ k, k ≤ n → freeL (freeL ps n) k = ps.filter (fun x => decide (x < (k : Int))) := by
    intro k
    induction k with
    | zero =>
      intro _
      rw [freeL]
      refine (List.filter_eq_nil_iff.2 (fun y hy => ?_)).symm
      obtain ⟨i, hi, e⟩ := List.getElem_of_mem hy
      have := (hp i hi).1
      simp [hi] at this
      simp; omega
    | succ k ih =>
      intro hk
      rw [freeL, ih (by omega), rise_filter ps hp]
      congr 1
      by_cases c : (k : Int) ∈ ps
      · have : inB (freeL ps n) k = false := by
          rw [inB_not, mem_freeL]
          rintro ⟨j, _, e, h⟩
          have : j = k := by omega
          subst this
          rw [inB_not] at h
          exact h c
        rw [this, if_pos c]; rfl
      · have : inB (freeL ps n) k = true := by
          rw [inB_iff, mem_freeL]
          exact ⟨k, by omega, rfl, inB_not.2 c⟩
        rw [this, if_pos rfl, if_neg c]
  rw [key n (Nat.le_refl _)]
  refine List.filter_eq_self.2 (fun y hy => ?_)
  obtain ⟨i, hi, e⟩ := List.getElem_of_mem hy
  have := (hp i hi).2.1
  simp [hi] at this
  simp; omega
end Go.Proofs.YteoobeldmicjhaaGreat.V
namespace Go.Proofs.YteoobeldmicjhaaGreat.V
set_option maxRecDepth 20000
open Go.RowKit

theorem doE_one {k : Int} {es ps lo hi st L D : List Int} {N : Nat} (ht : takesE k 1 = 0) (hL : arrE L N = 0) (hs : shapeP k es ps lo hi st [L] = (D, 0)) (hD : sizeE D = 0) : doE k es ps lo hi st 1 (oneV L N) = 0 := by
  have h2 : arrsE (oneV L N) 1 = 0 := arrsE_all 1 (fun j hj => hL)
  have h3 : dimsOf 1 (oneV L N) = [L] := rfl
  have h6 : sizesE [L] = 0 := sizesE_all _ (fun t ht => by
    match t, ht with
    | 0, _ => exact (arrE_ok hL).1)
  unfold doE
  rw [if_neg (by rw [ht]; simp), if_neg (by rw [h2]; simp), h3]
  unfold dimsP
  rw [if_neg (by simp [ht]), if_neg (by rw [h6]; simp), hs, if_neg (by simp), if_neg (by rw [hD]; simp)]
theorem nn_of {ds : List Int} {n : Nat} (h : arrE ds n = 0) : (prod ds).toNat = n := by
  have := (arrE_ok h).2.1
  omega
theorem adj_9 {es ps lo hi st ds : List Int} {n : Nat} (hE : doE 9 es ps lo hi st 1 (oneV ds n) = 0) :
    arrE ds n = 0 ∧ arrE es (prod es).toNat = 0 ∧ freeL (freeL ps es.length) es.length = ps ∧ taken es ps = ds ∧ doE 10 [] (freeL ps es.length) [] [] [] 1 (oneV es (prod es).toNat) = 0 ∧
    ∀ i : Nat, i < (prod es).toNat → 0 ≤ (readsV 0 es (sprS es.length (stepsV ds) ps))[i]?.getD 0 ∧ (readsV 0 es (sprS es.length (stepsV ds) ps))[i]?.getD 0 < (n : Int) := by
  obtain ⟨hae, hs1, _, _⟩ := oneV_parts hE
  have e0 : sprE 0 ds (stepsV ds) es ps = 0 := hs1
  obtain ⟨_, _, _, _, t5⟩ := thr_spread e0
  have hz := (arrE_ok hae).1
  have hn := nn_of hae
  unfold sprE at e0
  rw [if_neg (by rw [wrong_whole hz]; simp)] at e0
  by_cases c1 : sizeE es ≠ 0
  · rw [if_pos c1] at e0; exact absurd e0 c1
  rw [if_neg c1] at e0
  have hes : sizeE es = 0 := by simpa using c1
  by_cases c2 : ps.length = ds.length ∧ riseB ps es.length = true
  · rw [if_pos c2] at e0
    by_cases c3 : anyMis ds es ps = true
    · rw [if_pos c3] at e0; exact absurd e0 (by simp)
    · have hr := (riseB_iff _ _).1 c2.2
      have htw := freeL_twice hr
      have htk : taken es ps = ds := list_at_ext (by rw [taken_length, c2.1]) (fun k hk => by
        rw [taken_at _ _ _ (by omega)]
        by_cases c4 : misAt ds es ps k = true
        · exact absurd (anyMis_true k (by omega) c4) c3
        · simp [misAt] at c4
          exact c4.symm)
      refine ⟨hae, (arrE_of hes).1, htw, htk, ?_, fun i hi' => ?_⟩
      · refine doE_one (D := ds) (by kernel_rfl) (arrE_of hes).1 ?_ hz
        show sumP es (freeL ps es.length) = _
        unfold sumP
        rw [if_pos ((riseB_iff _ _).2 (freeL_rise _ _)), htw, htk]
      · obtain ⟨p, h1, h2, _⟩ := t5 i hi'
        rw [h2]; omega
  · rw [if_neg c2] at e0; exact absurd e0 (by simp)
theorem adj_10 {es ps lo hi st ds : List Int} {n : Nat} (hE : doE 10 es ps lo hi st 1 (oneV ds n) = 0) :
    arrE ds n = 0 ∧ arrE (taken ds (freeL ps ds.length)) (prod (taken ds (freeL ps ds.length))).toNat = 0 ∧ doE 9 ds (freeL ps ds.length) [] [] [] 1 (oneV (taken ds (freeL ps ds.length)) (prod (taken ds (freeL ps ds.length))).toNat) = 0 ∧
    ∀ i : Nat, i < n → 0 ≤ (readsV 0 ds (sprS ds.length (stepsV (taken ds (freeL ps ds.length))) (freeL ps ds.length)))[i]?.getD 0 ∧ (readsV 0 ds (sprS ds.length (stepsV (taken ds (freeL ps ds.length))) (freeL ps ds.length)))[i]?.getD 0 < ((prod (taken ds (freeL ps ds.length))).toNat : Int) := by
  obtain ⟨hae, hs1, hs2, _⟩ := oneV_parts hE
  have hsh : shapeP 10 es ps lo hi st [ds] = sumP ds ps := rfl
  rw [hsh] at hs1 hs2
  have hz := (arrE_ok hae).1
  have hn := nn_of hae
  have hq1 : (sumP ds ps).1 = taken ds (freeL ps ds.length) := by
    unfold sumP at hs1 ⊢
    by_cases c : riseB ps ds.length = true
    · rw [if_pos c]
    · rw [if_neg c] at hs1; exact absurd hs1 (by simp)
  rw [hq1] at hs2
  have hsp := sum_spread hz hs2
  obtain ⟨_, _, _, _, t5⟩ := thr_spread hsp
  refine ⟨hae, (arrE_of hs2).1, ?_, fun i hi' => ?_⟩
  · refine doE_one (D := ds) (by kernel_rfl) (arrE_of hs2).1 ?_ hz
    show (okL (sprE 0 (taken ds (freeL ps ds.length)) (stepsV (taken ds (freeL ps ds.length))) ds (freeL ps ds.length)) ds, sprE 0 (taken ds (freeL ps ds.length)) (stepsV (taken ds (freeL ps ds.length))) ds (freeL ps ds.length)) = _
    rw [hsp]; rfl
  · obtain ⟨p, h1, h2, _⟩ := t5 i (by omega)
    rw [h2]; omega
theorem adj_11 {es ps lo hi st ds : List Int} {n : Nat} (hE : doE 11 es ps lo hi st 1 (oneV ds n) = 0) :
    arrE ds n = 0 ∧ arrE (taken ds ps) n = 0 ∧ PermOk ps ds.length ∧ prod (taken ds ps) = prod ds ∧ taken (taken ds ps) (invL ps) = ds ∧ doE 11 [] (invL ps) [] [] [] 1 (oneV (taken ds ps) n) = 0 := by
  obtain ⟨hae, hs1, _, _⟩ := oneV_parts hE
  have e0 : turnE 0 ds (stepsV ds) ps = 0 := hs1
  obtain ⟨hp, _, hb, _⟩ := turn_again e0
  have hz := (arrE_ok hae).1
  have hpm := taken_perm hp
  have hzL : sizeE (taken ds ps) = 0 := by rw [sizeE_perm hpm]; exact hz
  have hpr : prod (taken ds ps) = prod ds := prod_perm hpm
  have hL : arrE (taken ds ps) n = 0 := by
    have := (arrE_of hzL).1
    rw [hpr, nn_of hae] at this
    exact this
  refine ⟨hae, hL, hp, hpr, hb, doE_one (D := ds) (by kernel_rfl) hL ?_ hz⟩
  have ht : turnE 0 (taken ds ps) (stepsV (taken ds ps)) (invL ps) = 0 := by
    unfold turnE
    rw [if_neg (by rw [wrong_whole hzL]; simp), if_pos]
    rw [permB_iff, taken_length, hp.1]
    exact invL_perm hp
  show (okL (turnE 0 (taken ds ps) (stepsV (taken ds ps)) (invL ps)) (taken (taken ds ps) (invL ps)), turnE 0 (taken ds ps) (stepsV (taken ds ps)) (invL ps)) = _
  rw [ht, hb]; rfl
theorem adj_12 {es ps lo hi st ds : List Int} {n : Nat} (hE : doE 12 es ps lo hi st 1 (oneV ds n) = 0) : arrE ds n = 0 ∧ arrE es n = 0 ∧ doE 12 ds [] [] [] [] 1 (oneV es n) = 0 := by
  obtain ⟨hae, hs1, hs2, _⟩ := oneV_parts hE
  have hsh : shapeP 12 es ps lo hi st [ds] = reformP ds es := rfl
  rw [hsh] at hs1 hs2
  have hz := (arrE_ok hae).1
  unfold reformP at hs1 hs2
  by_cases c1 : sizeE es ≠ 0
  · rw [if_pos c1] at hs1; exact absurd hs1 c1
  rw [if_neg c1] at hs1
  have hes : sizeE es = 0 := by simpa using c1
  by_cases c2 : sizeN es = sizeN ds
  · have hpe : prod es = prod ds := by rw [← size_prod hes, ← size_prod hz, c2]
    have hL : arrE es n = 0 := by
      have := (arrE_of hes).1
      rw [hpe, nn_of hae] at this
      exact this
    refine ⟨hae, hL, doE_one (D := ds) (by kernel_rfl) hL ?_ hz⟩
    show reformP es ds = _
    unfold reformP
    rw [if_neg (by rw [hz]; simp), if_pos c2.symm]
  · rw [if_neg c2] at hs1; exact absurd hs1 (by simp)
theorem kept_bk {l u s : Int} (hs : 1 ≤ s) (h : l ≤ u) : (if 0 < keptN l u s then (keptN l u s - 1) * s + 1 else 0) = bkN l u s := by
  unfold bkN keptN
  by_cases c : l < u
  · have e : (u - l + s - 1) / s = (u - l - 1) / s + 1 := by
      have : u - l + s - 1 = (u - l - 1) + s * 1 := by omega
      rw [this, Int.add_mul_ediv_left _ _ (by omega)]
    have h0 : 0 ≤ (u - l - 1) / s := Int.ediv_nonneg (by omega) (by omega)
    rw [e, if_pos (by omega), if_pos c]
    congr 2
    omega
  · have e : (u - l + s - 1) / s = 0 := Int.ediv_eq_zero_of_lt (by omega) (by omega)
    rw [e, if_neg (by omega), if_neg c]
theorem adj_13 {es ps lo hi st ds : List Int} {n : Nat} (hE : doE 13 es ps lo hi st 1 (oneV ds n) = 0) :
    arrE ds n = 0 ∧ arrE (cutD ds lo hi st) (prod (cutD ds lo hi st)).toNat = 0 ∧ (lo.length = ds.length ∧ hi.length = ds.length ∧ st.length = ds.length) ∧ (∀ j, j < ds.length → CutOne (ds[j]?.getD 0) (lo[j]?.getD 0) (hi[j]?.getD 0) (st[j]?.getD 0)) ∧ padD (cutD ds lo hi st) lo (bkHi ds lo hi st) st = ds ∧
    doE 14 [] [] lo (bkHi ds lo hi st) st 1 (oneV (cutD ds lo hi st) (prod (cutD ds lo hi st)).toNat) = 0 ∧
    ∀ i : Nat, i < (prod (cutD ds lo hi st)).toNat → 0 ≤ (readsV (cutAcc 0 (stepsV ds) lo ds.length) (cutD ds lo hi st) (cutS (stepsV ds) st))[i]?.getD 0 ∧ (readsV (cutAcc 0 (stepsV ds) lo ds.length) (cutD ds lo hi st) (cutS (stepsV ds) st))[i]?.getD 0 < (n : Int) := by
  obtain ⟨hae, hs1, hs2, _⟩ := oneV_parts hE
  have e0 : cutE 0 ds (stepsV ds) lo hi st = 0 := hs1
  obtain ⟨_, _, _, _, t5⟩ := thr_cut e0
  have hL : (shapeP 13 es ps lo hi st [ds]).1 = cutD ds lo hi st := by
    show okL (cutE 0 ds (stepsV ds) lo hi st) (cutD ds lo hi st) = _
    rw [e0]; rfl
  rw [hL] at hs2
  have hz := (arrE_ok hae).1
  have hn := nn_of hae
  unfold cutE at e0
  rw [if_neg (by rw [wrong_whole hz]; simp)] at e0
  by_cases c1 : lensB ds.length lo hi st = true
  · rw [if_pos c1] at e0
    by_cases c2 : anyBad ds lo hi st = true
    · rw [if_pos c2] at e0; exact absurd e0 (by simp)
    · have hbad : anyBad ds lo hi st = false := by simpa using c2
      obtain ⟨l1, l2, l3⟩ := lensB_true.1 c1
      have hok : ∀ j, j < ds.length → CutOne (ds[j]?.getD 0) (lo[j]?.getD 0) (hi[j]?.getD 0) (st[j]?.getD 0) := fun j hj => by
        have h1 := of_anyBad_false hbad j hj
        have h2 := ((sizeE_ok hz).2.1 _ (mem_getD ds j hj))
        unfold badAt badCut at h1
        simp only [Bool.or_eq_false_iff, decide_eq_false_iff_not] at h1
        exact ⟨by omega, by omega, by omega, by omega, by omega, by omega⟩
      have hpd : padD (cutD ds lo hi st) lo (bkHi ds lo hi st) st = ds := list_at_ext (by rw [padD_length, cutD_length]) (fun j hj => by
        have h1 := hok j hj
        have h2 := kept_bk h1.one h1.le
        rw [padD_getD _ _ _ _ _ (by rw [cutD_length]; exact hj), padV, cutD_getD _ _ _ _ _ hj, bkHi_at _ _ _ _ _ hj, h2]
        omega)
      have hap : anyPad (cutD ds lo hi st).length lo (bkHi ds lo hi st) st = false := by
        unfold anyPad
        rw [List.any_eq_false]
        intro j hj
        have hj' : j < ds.length := by rw [cutD_length] at hj; simpa using hj
        have h1 := hok j hj'
        have h2 := bkN_bd h1.one h1.le
        have h3 := bkHi_at ds lo hi st j hj'
        obtain ⟨a1, a2, a3, a4, a5, a6⟩ := h1
        simp only [padBad, Bool.or_eq_true, decide_eq_true_eq]
        omega
      refine ⟨hae, (arrE_of hs2).1, ⟨l1, l2, l3⟩, hok, hpd, doE_one (D := ds) (by kernel_rfl) (arrE_of hs2).1 ?_ hz, fun i hi' => ?_⟩
      · show padP (cutD ds lo hi st) lo (bkHi ds lo hi st) st = _
        unfold padP
        rw [if_pos (lensB_true.2 ⟨by rw [cutD_length]; exact l1, by rw [cutD_length, bkHi_length], by rw [cutD_length]; exact l3⟩), if_neg (by rw [hap]; simp), hpd]
      · obtain ⟨p, h1, h2, _⟩ := t5 i hi'
        rw [h2]; omega
  · rw [if_neg c1] at e0; exact absurd e0 (by simp)
theorem adj_14 {es ps lo hi st ds : List Int} {n : Nat} (hE : doE 14 es ps lo hi st 1 (oneV ds n) = 0) :
    arrE ds n = 0 ∧ arrE (padD ds lo hi st) (prod (padD ds lo hi st)).toNat = 0 ∧ (lo.length = ds.length ∧ hi.length = ds.length ∧ st.length = ds.length) ∧ (∀ j, j < ds.length → PadOne (ds[j]?.getD 0) (lo[j]?.getD 0) (st[j]?.getD 0)) ∧ cutD (padD ds lo hi st) lo (pdHi ds lo st) st = ds ∧
    doE 13 [] [] lo (pdHi ds lo st) st 1 (oneV (padD ds lo hi st) (prod (padD ds lo hi st)).toNat) = 0 ∧
    ∀ i : Nat, i < n → 0 ≤ (readsV (cutAcc 0 (stepsV (padD ds lo hi st)) lo (padD ds lo hi st).length) ds (cutS (stepsV (padD ds lo hi st)) st))[i]?.getD 0 ∧ (readsV (cutAcc 0 (stepsV (padD ds lo hi st)) lo (padD ds lo hi st).length) ds (cutS (stepsV (padD ds lo hi st)) st))[i]?.getD 0 < ((prod (padD ds lo hi st)).toNat : Int) := by
  obtain ⟨hae, hs1, hs2, _⟩ := oneV_parts hE
  have hsh : shapeP 14 es ps lo hi st [ds] = padP ds lo hi st := rfl
  rw [hsh] at hs1 hs2
  have hz := (arrE_ok hae).1
  have hn := nn_of hae
  unfold padP at hs1 hs2
  by_cases c1 : lensB ds.length lo hi st = true
  · rw [if_pos c1] at hs1 hs2
    by_cases c2 : anyPad ds.length lo hi st = true
    · rw [if_pos c2] at hs1; exact absurd hs1 (by simp)
    · rw [if_neg c2] at hs2
      have hs2' : sizeE (padD ds lo hi st) = 0 := hs2
      have hb : anyPad ds.length lo hi st = false := by simpa using c2
      obtain ⟨l1, l2, l3⟩ := lensB_true.1 c1
      obtain ⟨k1, k2, k3⟩ := pad_cut hz c1 hb
      have hpe : pdHi ds lo st = endL (padD ds lo hi st) hi := list_at_ext (by rw [pdHi_length, endL_length, padD_length]) (fun j hj => by
        rw [endL_length, padD_length] at hj
        rw [pdHi_at _ _ _ _ hj, endL_at _ _ _ (by rw [padD_length]; exact hj), padD_getD _ _ _ _ _ hj, padV, pdE]; omega)
      rw [← hpe] at k1 k2 k3
      have hcw := cut_whole hs2' k1 k2
      obtain ⟨_, _, _, _, t5⟩ := thr_cut hcw
      rw [k3] at t5
      refine ⟨hae, (arrE_of hs2').1, ⟨l1, l2, l3⟩, fun j hj => ?_, k3, doE_one (D := ds) (by kernel_rfl) (arrE_of hs2').1 ?_ hz, fun i hi' => ?_⟩
      · have h1 := of_anyPad_false hb j hj
        have h2 := ((sizeE_ok hz).2.1 _ (mem_getD ds j hj))
        exact ⟨by omega, by omega, by omega, by omega, by omega, by omega⟩
      · show (okL (cutE 0 (padD ds lo hi st) (stepsV (padD ds lo hi st)) lo (pdHi ds lo st) st) (cutD (padD ds lo hi st) lo (pdHi ds lo st) st), cutE 0 (padD ds lo hi st) (stepsV (padD ds lo hi st)) lo (pdHi ds lo st) st) = _
        rw [hcw, k3]; rfl
      · obtain ⟨p, h1, h2, _⟩ := t5 i (by omega)
        rw [h2]; omega
  · rw [if_neg c1] at hs1; exact absurd hs1 (by simp)
theorem adj_15 {es ps lo hi st ds : List Int} {n : Nat} (hE : doE 15 es ps lo hi st 1 (oneV ds n) = 0) : arrE ds n = 0 ∧ RiseOk ps ds.length := by
  obtain ⟨hae, hs1, _, _⟩ := oneV_parts hE
  have e0 : flipE 0 ds (stepsV ds) ps = 0 := hs1
  have hz := (arrE_ok hae).1
  refine ⟨hae, (riseB_iff _ _).1 ?_⟩
  rw [flip_whole ps hz] at e0
  by_cases c : riseB ps ds.length = true
  · exact c
  · rw [if_neg c] at e0; exact absurd e0 (by simp)
end Go.Proofs.YteoobeldmicjhaaGreat.V
namespace Go.Proofs.YteoobeldmicjhaaGreat.V
set_option maxRecDepth 20000
open Go.RowKit

end Go.Proofs.YteoobeldmicjhaaGreat.V
