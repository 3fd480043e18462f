/-
  Plain mathematics: when places can be read in other dimensions.
-/
import Derived.Test.YtfamaaahofjglaaReadsV
namespace Go.Proofs.Ytfamaaahofjglaa.V

/-- Along a dimension of D, with B behind it, two neighbours lie equally far apart everywhere. -/
def EvenP (L : List Int) (D B : Nat) : Prop := D = 1 ∨ ∀ p, p < L.length → B ≤ p % (D * B) → L[p]?.getD 0 - L[p - B]?.getD 0 = L[B]?.getD 0 - L[0]?.getD 0
def stepE (L : List Int) (D B : Nat) : Int := if D = 1 then 0 else L[B]?.getD 0 - L[0]?.getD 0
/-- The steps that are read off. -/
def reformSteps (L es : List Int) : List Int := (List.range es.length).map fun k => stepE L (es[k]?.getD 0).toNat (beh es k).toNat
theorem reformSteps_length (L es : List Int) : (reformSteps L es).length = es.length := by simp [reformSteps]
theorem reformSteps_getD (L es : List Int) (k : Nat) (h : k < es.length) : (reformSteps L es)[k]?.getD 0 = stepE L (es[k]?.getD 0).toNat (beh es k).toNat := by simp [reformSteps, h]

theorem beh_cons (d : Int) (ds : List Int) (k : Nat) : beh (d :: ds) (k + 1) = beh ds k := by simp [beh]
theorem beh_zero (d : Int) (ds : List Int) : beh (d :: ds) 0 = prod ds := by simp [beh]
theorem beh_pos {ds : List Int} (h : ∀ x ∈ ds, 1 ≤ x) (k : Nat) : 1 ≤ beh ds k := (prod_drop_le ds h (k + 1)).1
theorem getD_pos {ds : List Int} (h : ∀ x ∈ ds, 1 ≤ x) {k : Nat} (hk : k < ds.length) : 1 ≤ ds[k]?.getD 0 := h _ (mem_getD ds k hk)

/-- What lies one further along a dimension lies its step further. -/
theorem lieN_step : ∀ (ds ss : List Int), ss.length = ds.length → (∀ x ∈ ds, 1 ≤ x) → ∀ (k : Nat) (p : Int), k < ds.length → 0 ≤ p → beh ds k ≤ p % (ds[k]?.getD 0 * beh ds k) → lieN ds ss p = lieN ds ss (p - beh ds k) + ss[k]?.getD 0
  | [], _, _, _, k, p, hk, _, _ => by simp at hk
  | d :: ds, [], hl, _, _, _, _, _, _ => by simp at hl
  | d :: ds, t :: ss, hl, hpos, k, p, hk, hp0, hc => by
    have hpos' : ∀ x ∈ ds, 1 ≤ x := fun x hx => hpos x (by simp [hx])
    have hP := prod_pos ds hpos'
    cases k with
    | zero =>
      rw [beh_zero] at hc ⊢
      simp only [lieN, List.getElem?_cons_zero, Option.getD_some]
      have e1 : (p - prod ds) / prod ds = p / prod ds - 1 := by
        rw [show p - prod ds = p + (-1) * prod ds by omega, Int.add_mul_ediv_right _ _ (by omega)]; omega
      have e2 : (p - prod ds) % prod ds = p % prod ds := by
        rw [show p - prod ds = p + (-1) * prod ds by omega, Int.add_mul_emod_self_right]
      rw [e1, e2, Int.sub_mul]; omega
    | succ k =>
      rw [beh_cons] at hc ⊢
      simp only [lieN, List.getElem?_cons_succ] at hc ⊢
      have hk' : k < ds.length := by simpa using hk
      have hB := beh_pos hpos' k
      have hD := getD_pos hpos' hk'
      -- the block of this dimension divides what lies behind the first one
      have hdvd : ds[k]?.getD 0 * beh ds k ∣ prod ds := by
        have e : prod ds = prod (ds.take k) * prod (ds.drop k) := by rw [← prod_append, List.take_append_drop]
        rw [e, prod_drop ds k hk']
        exact Int.dvd_mul_left _ _
      have hDB : 1 ≤ ds[k]?.getD 0 * beh ds k := by
        have : 1 * 1 ≤ ds[k]?.getD 0 * beh ds k := Int.mul_le_mul hD hB (by omega) (by omega)
        simpa using this
      have hm : (p % prod ds) % (ds[k]?.getD 0 * beh ds k) = p % (ds[k]?.getD 0 * beh ds k) := Int.emod_emod_of_dvd p hdvd
      have hle : beh ds k ≤ p % prod ds := by
        have h1 := Int.emod_nonneg p (show prod ds ≠ 0 by omega)
        have h3 := Int.mul_ediv_add_emod (p % prod ds) (ds[k]?.getD 0 * beh ds k)
        have h4 : 0 ≤ ds[k]?.getD 0 * beh ds k * (p % prod ds / (ds[k]?.getD 0 * beh ds k)) := Int.mul_nonneg (by omega) (Int.ediv_nonneg h1 (by omega))
        omega
      have hlt := Int.emod_lt_of_pos p (show 0 < prod ds by omega)
      have hdm := Int.mul_ediv_add_emod p (prod ds)
      have ep : p - beh ds k = (p % prod ds - beh ds k) + p / prod ds * prod ds := by rw [Int.mul_comm]; omega
      have e1 : (p - beh ds k) / prod ds = p / prod ds := by
        rw [ep, Int.add_mul_ediv_right _ _ (by omega), Int.ediv_eq_zero_of_lt (by omega) (by omega)]; omega
      have e2 : (p - beh ds k) % prod ds = p % prod ds - beh ds k := by
        rw [ep, Int.add_mul_emod_self_right, Int.emod_eq_of_lt (by omega) (by omega)]
      have ih := lieN_step ds ss (by simpa using hl) hpos' k (p % prod ds) hk' (by omega) (by rw [hm]; exact hc)
      rw [e1, e2, ih]; omega

/-- An entry that is not the first one has a neighbour ahead of it, along some dimension. -/
theorem some_dim {es : List Int} {i : Int} (h0 : 0 < i) (h1 : i < prod es) : ∃ k, k < es.length ∧ beh es k ≤ i % (es[k]?.getD 0 * beh es k) := by
  apply Classical.byContradiction
  intro hn
  have key : ∀ k, k ≤ es.length → i < prod (es.drop k) := by
    intro k
    induction k with
    | zero => intro _; simpa using h1
    | succ k ih =>
      intro hk
      have h2 := ih (by omega)
      rw [prod_drop es k (by omega)] at h2
      have h3 : ¬ beh es k ≤ i % (es[k]?.getD 0 * beh es k) := fun h => hn ⟨k, by omega, h⟩
      have e : i % (es[k]?.getD 0 * beh es k) = i := Int.emod_eq_of_lt (by omega) h2
      rw [e] at h3
      show i < beh es k
      omega
  have := key es.length (Nat.le_refl _)
  rw [List.drop_eq_nil_of_le (Nat.le_refl _)] at this
  simp [prod] at this
  omega

theorem mod_nat {p D B : Nat} {d b : Int} (hd : d = D) (hb : b = B) : ((p : Int) % (d * b)) = ((p % (D * B) : Nat) : Int) := by
  subst hd hb
  rw [Int.natCast_emod, Int.natCast_mul]

/-- Where neighbours lie evenly, all lies as the steps say. -/
theorem even_lies {L es : List Int} (hpos : ∀ x ∈ es, 1 ≤ x) (hN : L.length = (prod es).toNat) (hev : ∀ k, k < es.length → EvenP L (es[k]?.getD 0).toNat (beh es k).toNat) :
    ∀ (n i : Nat), i ≤ n → i < L.length → L[i]?.getD 0 = L[0]?.getD 0 + lieN es (reformSteps L es) i := by
  intro n
  induction n with
  | zero =>
    intro i hi _
    obtain rfl : i = 0 := by omega
    rw [show ((0 : Nat) : Int) = 0 from rfl, lieN_zero]; omega
  | succ n ih =>
    intro i hi hil
    by_cases h0 : i = 0
    · subst h0; rw [show ((0 : Nat) : Int) = 0 from rfl, lieN_zero]; omega
    obtain ⟨k, hk, hc⟩ := some_dim (es := es) (i := (i : Int)) (by omega) (by omega)
    have hB := beh_pos hpos k
    have hD := getD_pos hpos hk
    obtain ⟨B, hBn⟩ : ∃ B : Nat, beh es k = (B : Int) := ⟨(beh es k).toNat, by omega⟩
    obtain ⟨D, hDn⟩ : ∃ D : Nat, es[k]?.getD 0 = (D : Int) := ⟨(es[k]?.getD 0).toNat, by omega⟩
    have hst := lieN_step es (reformSteps L es) (reformSteps_length L es) hpos k i hk (by omega) hc
    rw [mod_nat hDn hBn, hBn] at hc
    have hc' : B ≤ i % (D * B) := by omega
    have hle : i % (D * B) ≤ i := Nat.mod_le _ _
    have e := hev k hk
    rw [hDn, hBn, Int.toNat_natCast, Int.toNat_natCast] at e
    have hD1 : D ≠ 1 := by
      intro e1
      subst e1
      rw [Nat.one_mul] at hc'
      have := Nat.mod_lt i (show 0 < B by omega)
      omega
    have ev := (e.resolve_left hD1) i hil hc'
    have ih' := ih (i - B) (by omega) (by omega)
    rw [hst, reformSteps_getD L es k hk, hDn, hBn, Int.toNat_natCast, Int.toNat_natCast, stepE, if_neg hD1]
    have ec : (i : Int) - (B : Int) = ((i - B : Nat) : Int) := by omega
    rw [ec]
    omega

/-- And where all lies as the steps say, but for multiples of 2^64, neighbours lie evenly. -/
theorem lies_even {L es : List Int} (hpos : ∀ x ∈ es, 1 ≤ x) (hN : L.length = (prod es).toNat) (hb : ∀ x ∈ L, -28115000000000000 ≤ x ∧ x ≤ 28115000000000000)
    (hl : ∀ i, i < L.length → ∃ c : Int, L[i]?.getD 0 = L[0]?.getD 0 + lieN es (reformSteps L es) i + c * 18446744073709551616) : ∀ k, k < es.length → EvenP L (es[k]?.getD 0).toNat (beh es k).toNat := by
  intro k hk
  have hB := beh_pos hpos k
  have hD := getD_pos hpos hk
  obtain ⟨B, hBn⟩ : ∃ B : Nat, beh es k = (B : Int) := ⟨(beh es k).toNat, by omega⟩
  obtain ⟨D, hDn⟩ : ∃ D : Nat, es[k]?.getD 0 = (D : Int) := ⟨(es[k]?.getD 0).toNat, by omega⟩
  rw [hDn, hBn, Int.toNat_natCast, Int.toNat_natCast]
  by_cases hD1 : D = 1
  · exact .inl hD1
  refine .inr fun p hp hc => ?_
  have hle : p % (D * B) ≤ p := Nat.mod_le _ _
  have hst := lieN_step es (reformSteps L es) (reformSteps_length L es) hpos k p hk (by omega) (by rw [mod_nat hDn hBn, hBn]; omega)
  rw [reformSteps_getD L es k hk, hDn, hBn, Int.toNat_natCast, Int.toNat_natCast, stepE, if_neg hD1] at hst
  obtain ⟨c1, h1⟩ := hl p hp
  obtain ⟨c2, h2⟩ := hl (p - B) (by omega)
  have ec : ((p - B : Nat) : Int) = (p : Int) - (B : Int) := by omega
  rw [ec] at h2
  have hDB : D * B ≤ L.length := by
    have e := prod_drop es k hk
    have h3 := (prod_drop_le es hpos k).2
    have h4 : beh es k = prod (es.drop (k + 1)) := rfl
    rw [← h4, hBn, hDn, ← Int.natCast_mul] at e
    omega
  have hBl : B < L.length := by
    have : B * 1 < B * D := Nat.mul_lt_mul_of_pos_left (by omega) (by omega)
    rw [Nat.mul_comm B D] at this
    omega
  have b1 := hb _ (mem_getD L p hp)
  have b2 := hb _ (mem_getD L (p - B) (by omega))
  have b3 := hb _ (mem_getD L B hBl)
  have b4 := hb _ (mem_getD L 0 (by omega))
  omega
end Go.Proofs.Ytfamaaahofjglaa.V
