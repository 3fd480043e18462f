/-
  Plain mathematics: what is turned can be turned back; what is flipped twice is as it was; an array that lies whole can be read in all dimensions that fit.
-/
import Derived.Test.YtfamaaahofjglaaReformAny
namespace Go.Proofs.Ytfamaaahofjglaa.V

/-! ### Turning back -/
theorem perm_range : ∀ (n : Nat) (l : List Nat), l.length = n → (∀ k, k < n → k ∈ l) → l.Perm (List.range n)
  | 0, l, h, _ => by
    have : l = [] := List.length_eq_zero_iff.1 h
    subst this; exact List.Perm.refl _
  | n + 1, l, h, hm => by
    obtain ⟨a, b, rfl⟩ := List.append_of_mem (hm n (by omega))
    have hl : (a ++ b).length = n := by simp at h ⊢; omega
    have ih := perm_range n (a ++ b) hl (fun k hk => by
      have := hm k (by omega)
      simp only [List.mem_append, List.mem_cons] at this ⊢
      rcases this with h | rfl | h
      · exact .inl h
      · omega
      · exact .inr h)
    rw [List.range_succ]
    exact List.perm_middle.trans ((List.Perm.cons n ih).trans (List.perm_append_singleton n (List.range n)).symm)
theorem map_getD_range (xs : List Int) : (List.range xs.length).map (fun k => xs[k]?.getD 0) = xs := by
  apply List.ext_getElem?
  intro i
  by_cases hi : i < xs.length
  · simp [hi]
  · rw [List.getElem?_eq_none (by simp; omega), List.getElem?_eq_none (by omega)]
theorem taken_perm {xs ps : List Int} (hp : PermOk ps xs.length) : (taken xs ps).Perm xs := by
  have h1 : (ps.map Int.toNat).Perm (List.range xs.length) := by
    refine perm_range _ _ (by simp [hp.1]) (fun k hk => ?_)
    have := (perm_iff hp.1).1 hp.2 k hk
    simp only [List.mem_map]
    exact ⟨(k : Int), this, by simp⟩
  have h2 := h1.map (fun k => xs[k]?.getD 0)
  rw [map_getD_range] at h2
  have e : taken xs ps = (ps.map Int.toNat).map (fun k => xs[k]?.getD 0) := by simp [taken]
  rw [e]; exact h2
theorem prod_perm {a b : List Int} (h : a.Perm b) : prod a = prod b := by
  induction h with
  | nil => rfl
  | cons x _ ih => rw [prod, prod, ih]
  | swap x y l => simp only [prod]; rw [← Int.mul_assoc, ← Int.mul_assoc, Int.mul_comm y x]
  | trans _ _ ih1 ih2 => rw [ih1, ih2]
theorem any_perm {a b : List Int} (h : a.Perm b) (p : Int → Bool) : a.any p = b.any p := by
  cases hb : b.any p with
  | true =>
    rw [List.any_eq_true] at hb ⊢
    obtain ⟨x, hx, hp⟩ := hb
    exact ⟨x, h.mem_iff.2 hx, hp⟩
  | false =>
    rw [List.any_eq_false] at hb ⊢
    exact fun x hx => hb x (h.mem_iff.1 hx)
theorem sizeE_perm {a b : List Int} (h : a.Perm b) : sizeE a = sizeE b := by
  unfold sizeE
  rw [h.length_eq, any_perm h, prod_perm h]
  by_cases h0 : (0 : Int) ∈ b
  · rw [if_pos h0, if_pos (h.mem_iff.2 h0)]
  · rw [if_neg h0, if_neg (fun e => h0 (h.mem_iff.1 e))]
theorem sizeN_perm {a b : List Int} (h : a.Perm b) : sizeN a = sizeN b := by
  unfold sizeN
  rw [h.length_eq, any_perm h, prod_perm h]
  by_cases h0 : (0 : Int) ∈ b
  · rw [if_pos h0, if_pos (h.mem_iff.2 h0)]
  · rw [if_neg h0, if_neg (fun e => h0 (h.mem_iff.1 e))]
theorem wrong_turn {s : Int} {ds ss ps : List Int} (hW : wrongE s ds ss = 0) (hp : PermOk ps ds.length) : wrongE s (taken ds ps) (taken ss ps) = 0 := by
  obtain ⟨h1, h2, h3⟩ := wrongE_ok hW
  unfold wrongE
  rw [sizeE_perm (taken_perm hp), if_neg (by simp [h1]), taken_length, taken_length, if_neg (by simp), if_neg (by rw [turn_far hW hp h2]; simp)]

/-- Where k stands in the list; the last such place ahead of i. -/
def invN (ps : List Int) : Nat → Nat → Int
  | 0, _ => 0
  | i + 1, k => if ps[i]?.getD 0 = (k : Int) then (i : Int) else invN ps i k
def invL (ps : List Int) : List Int := (List.range ps.length).map (invN ps ps.length)
theorem invN_spec (ps : List Int) (k : Nat) : ∀ n, (∃ i, i < n ∧ ps[i]?.getD 0 = (k : Int)) → ∃ i : Nat, i < n ∧ invN ps n k = (i : Int) ∧ ps[i]?.getD 0 = (k : Int)
  | 0, ⟨i, h, _⟩ => by omega
  | n + 1, ⟨i, h, e⟩ => by
    by_cases c : ps[n]?.getD 0 = (k : Int)
    · exact ⟨n, by omega, by rw [invN, if_pos c], c⟩
    · have : i < n := by
        by_cases h' : i = n
        · subst h'; exact absurd e c
        · omega
      obtain ⟨j, h1, h2, h3⟩ := invN_spec ps k n ⟨i, this, e⟩
      exact ⟨j, by omega, by rw [invN, if_neg c, h2], h3⟩
theorem invL_length (ps : List Int) : (invL ps).length = ps.length := by simp [invL]
theorem invL_getD (ps : List Int) (k : Nat) (h : k < ps.length) : (invL ps)[k]?.getD 0 = invN ps ps.length k := by simp [invL, h]
theorem perm_inj {ps : List Int} {n : Nat} (hp : PermOk ps n) {i j : Nat} (hi : i < n) (hj : j < n) (e : ps[i]?.getD 0 = ps[j]?.getD 0) : i = j := by
  by_cases h1 : i < j
  · exact absurd e ((hp.2 j hj).2.2 i h1)
  · by_cases h2 : j < i
    · exact absurd e.symm ((hp.2 i hi).2.2 j h2)
    · omega
theorem perm_at {ps : List Int} {n : Nat} (hp : PermOk ps n) (k : Nat) (hk : k < n) : ∃ i : Nat, i < n ∧ invN ps n k = (i : Int) ∧ ps[i]?.getD 0 = (k : Int) := by
  have hm := (perm_iff hp.1).1 hp.2 k hk
  obtain ⟨i, hi, e⟩ := List.getElem_of_mem hm
  have hl := hp.1
  exact invN_spec ps k n ⟨i, by omega, by simp [hi, e]⟩
theorem invL_perm {ps : List Int} {n : Nat} (hp : PermOk ps n) : PermOk (invL ps) n := by
  have hl := hp.1
  refine ⟨by rw [invL_length, hl], (perm_iff (by rw [invL_length, hl])).2 fun i hi => ?_⟩
  have hb := hp.2 i hi
  obtain ⟨k, hk⟩ : ∃ k : Nat, ps[i]?.getD 0 = (k : Int) := ⟨(ps[i]?.getD 0).toNat, by omega⟩
  have hkn : k < n := by omega
  obtain ⟨j, h1, h2, h3⟩ := perm_at hp k hkn
  have hij := perm_inj hp hi h1 (hk.trans h3.symm)
  subst hij
  have : (invL ps)[k]?.getD 0 = (i : Int) := by rw [invL_getD ps k (by omega), hl, h2]
  rw [← this]
  exact mem_getD _ k (by rw [invL_length, hl]; exact hkn)
theorem taken_back {xs ps : List Int} (hp : PermOk ps xs.length) : taken (taken xs ps) (invL ps) = xs := by
  have hl := hp.1
  apply List.ext_getElem?
  intro k
  by_cases hk : k < xs.length
  · obtain ⟨i, h1, h2, h3⟩ := perm_at hp k hk
    have e1 : (taken (taken xs ps) (invL ps))[k]?.getD 0 = (taken xs ps)[i]?.getD 0 := taken_getD _ _ k i (by rw [invL_length]; omega) (by rw [invL_getD ps k (by omega), hl, h2])
    have e2 : (taken xs ps)[i]?.getD 0 = xs[k]?.getD 0 := taken_getD _ _ i k (by omega) h3
    have hl1 : k < (taken (taken xs ps) (invL ps)).length := by rw [taken_length, invL_length]; omega
    rw [List.getElem?_eq_getElem hl1, Option.getD_some] at e1
    rw [List.getElem?_eq_getElem hk, Option.getD_some] at e2
    rw [List.getElem?_eq_getElem hl1, List.getElem?_eq_getElem hk, e1, e2]
  · rw [List.getElem?_eq_none (by rw [taken_length, invL_length]; omega), List.getElem?_eq_none (by omega)]
theorem turn_again {s : Int} {ds ss ps : List Int} (h : turnE s ds ss ps = 0) : PermOk ps ds.length ∧ turnE s (taken ds ps) (taken ss ps) (invL ps) = 0 ∧ taken (taken ds ps) (invL ps) = ds ∧ taken (taken ss ps) (invL ps) = ss := by
  have hW : wrongE s ds ss = 0 := by
    unfold turnE at h
    by_cases c : wrongE s ds ss = 0
    · exact c
    · rw [if_pos c] at h; exact absurd h c
  have hp : PermOk ps ds.length := by
    unfold turnE at h
    rw [if_neg (by simp [hW])] at h
    by_cases c : permB ps ds.length = true
    · exact (permB_iff _ _).1 c
    · rw [if_neg c] at h; omega
  have hlen := (wrongE_ok hW).2.1
  refine ⟨hp, ?_, taken_back hp, taken_back (by rw [hlen]; exact hp)⟩
  unfold turnE
  rw [if_neg (by rw [wrong_turn hW hp]; simp), if_pos ((permB_iff _ _).2 (by rw [taken_length, hp.1]; exact invL_perm hp))]

/-! ### Flipping twice -/
theorem flipL_twice (ss ps : List Int) : flipL (flipL ss ps) ps = ss := by
  apply List.ext_getElem?
  intro k
  by_cases hk : k < ss.length
  · have h1 : k < (flipL ss ps).length := by rw [flipL_length]; exact hk
    have h2 : k < (flipL (flipL ss ps) ps).length := by rw [flipL_length]; exact h1
    have e := flipL_getD (flipL ss ps) ps k h1
    rw [flipL_getD ss ps k hk] at e
    rw [List.getElem?_eq_getElem h2, Option.getD_some] at e
    rw [List.getElem?_eq_getElem h2, e, List.getElem?_eq_getElem hk]
    by_cases c : inB ps k = true
    · rw [if_pos c, if_pos c]; simp
    · rw [if_neg c, if_neg c]; simp
  · rw [List.getElem?_eq_none (by rw [flipL_length, flipL_length]; omega), List.getElem?_eq_none (by omega)]
theorem flipTerm_neg {ds ss ps : List Int} {j : Nat} (hj : j < ss.length) (h : inB ps j = true) : flipTerm ds (flipL ss ps) j = -(flipTerm ds ss j) := by
  unfold flipTerm
  rw [flipL_getD ss ps j hj, if_pos h]
  split
  · rw [Int.mul_neg]
  · simp
theorem flipAcc_add (ds ss ps : List Int) : ∀ (i : Nat) (s t : Int), flipAcc (s + t) ds ss ps i = flipAcc s ds ss ps i + t
  | 0, s, t => rfl
  | i + 1, s, t => by rw [flipAcc, flipAcc, flipAcc_add ds ss ps i]; omega
theorem flipAcc_neg {ds ss ps : List Int} {n : Nat} (hl : ss.length = n) (hp : RiseOk ps n) : ∀ (i : Nat) (s : Int), i ≤ ps.length → flipAcc s ds (flipL ss ps) ps i = s - (flipAcc s ds ss ps i - s)
  | 0, s, _ => by simp [flipAcc]
  | i + 1, s, hi => by
    have ih := flipAcc_neg (ds := ds) hl hp i s (by omega)
    have hb := hp i (by omega)
    have hin : inB ps (ps[i]?.getD 0).toNat = true := by
      unfold inB
      rw [List.any_eq_true]
      exact ⟨_, mem_getD ps i (by omega), by simp; omega⟩
    rw [flipAcc, flipAcc, ih, flipTerm_neg (by omega) hin]
    omega
theorem flip_again {s : Int} {ds ss ps : List Int} (h : flipE s ds ss ps = 0) : flipE (flipAcc s ds ss ps ps.length) ds (flipL ss ps) ps = 0 ∧ flipAcc (flipAcc s ds ss ps ps.length) ds (flipL ss ps) ps ps.length = s ∧ flipL (flipL ss ps) ps = ss := by
  have hW : wrongE s ds ss = 0 := by
    unfold flipE at h
    by_cases c : wrongE s ds ss = 0
    · exact c
    · rw [if_pos c] at h; exact absurd h c
  unfold flipE at h
  rw [if_neg (by simp [hW])] at h
  have hp : riseB ps ds.length = true := by
    by_cases c : riseB ps ds.length = true
    · exact c
    · rw [if_neg c] at h; omega
  rw [if_pos hp] at h
  have hbe : beyondB (flipAcc s ds ss ps ps.length) (flipL ss ps) = false := by
    cases c : beyondB (flipAcc s ds ss ps ps.length) (flipL ss ps) with
    | false => rfl
    | true => rw [c] at h; simp at h
  obtain ⟨h1, h2, h3⟩ := wrongE_ok hW
  have hpo := (riseB_iff _ _).1 hp
  have hback : flipAcc (flipAcc s ds ss ps ps.length) ds (flipL ss ps) ps ps.length = s := by
    have e1 := flipAcc_neg (ds := ds) h2 hpo ps.length (flipAcc s ds ss ps ps.length) (Nat.le_refl _)
    have e2 := flipAcc_add ds ss ps ps.length s (flipAcc s ds ss ps ps.length - s)
    rw [show s + (flipAcc s ds ss ps ps.length - s) = flipAcc s ds ss ps ps.length by omega] at e2
    omega
  refine ⟨?_, hback, flipL_twice ss ps⟩
  have hw : wrongE (flipAcc s ds ss ps ps.length) ds (flipL ss ps) = 0 := by
    unfold wrongE
    rw [if_neg (by simp [h1]), if_neg (by rw [flipL_length]; simp [h2]), if_neg (by rw [hbe]; simp)]
  unfold flipE
  rw [if_neg (by simp [hw]), if_pos hp, hback, flipL_twice, if_neg (by rw [h3]; simp)]

/-! ### What lies whole -/
theorem stepsV_cons {d : Int} {ds : List Int} (h : ∀ x ∈ d :: ds, 1 ≤ x) : stepsV (d :: ds) = prod ds :: stepsV ds := by
  have h' : ∀ x ∈ ds, 1 ≤ x := fun x hx => h x (by simp [hx])
  unfold stepsV
  rw [List.length_cons, List.range_succ_eq_map, List.map_cons, List.map_map, stepV_pos h, beh_zero]
  congr 1
  apply List.map_congr_left
  intro k _
  show stepV (d :: ds) (k + 1) = stepV ds k
  rw [stepV_pos h, stepV_pos h', beh_cons]
theorem lieN_whole : ∀ (ds : List Int) (n : Int), (∀ x ∈ ds, 1 ≤ x) → 0 ≤ n → n < prod ds → lieN ds (stepsV ds) n = n
  | [], n, _, h0, h1 => by simp [prod] at h1; simp [lieN]; omega
  | d :: ds, n, h, h0, h1 => by
    have h' : ∀ x ∈ ds, 1 ≤ x := fun x hx => h x (by simp [hx])
    have hP := prod_pos ds h'
    rw [stepsV_cons h, lieN, lieN_whole ds (n % prod ds) h' (Int.emod_nonneg _ (by omega)) (Int.emod_lt_of_pos _ (by omega))]
    have := Int.mul_ediv_add_emod n (prod ds)
    rw [Int.mul_comm]; omega
theorem readsV_whole {ds : List Int} (h : ∀ x ∈ ds, 1 ≤ x) (i : Nat) (hi : i < (prod ds).toNat) : (readsV 0 ds (stepsV ds))[i]?.getD 0 = i := by
  rw [readsV_getD 0 ds _ i hi, lieN_whole ds i h (by omega) (by omega)]; omega
theorem wrong_whole {ds : List Int} (h : sizeE ds = 0) : wrongE 0 ds (stepsV ds) = 0 := by
  unfold wrongE
  rw [if_neg (by simp [h]), if_neg (by rw [stepsV_len]; simp), if_neg ?_]
  have : beyondB 0 (stepsV ds) = false := by
    unfold beyondB
    rw [Bool.or_eq_false_iff]
    refine ⟨by decide, ?_⟩
    rw [List.any_eq_false]
    intro x hx
    simp only [stepsV, List.mem_map, List.mem_range] at hx
    obtain ⟨k, _, rfl⟩ := hx
    have : 0 ≤ stepV ds k ∧ stepV ds k ≤ 65536 := by
      rcases dims_cases h with ⟨h0, _⟩ | ⟨hpos, _, hp, _⟩
      · rw [stepV_zero h0]; omega
      · rw [stepV_pos hpos]
        have := prod_drop_le ds hpos (k + 1)
        unfold beh; omega
    simp [farB]; omega
  rw [this]; simp
theorem reform_whole {ds es : List Int} (h : sizeE ds = 0) : (reformE 0 ds (stepsV ds) es = 0) ↔ (sizeE es = 0 ∧ sizeN ds = sizeN es) := by
  have hNd : sizeN ds = prod ds := by rcases dims_cases h with ⟨_, h1, h2⟩ | ⟨_, h1, _⟩ <;> omega
  unfold reformE
  rw [if_neg (by simp [wrong_whole h])]
  by_cases hE : sizeE es = 0
  · rw [if_neg (by simp [hE])]
    by_cases hN : sizeN es = prod ds
    · rw [if_neg (by simp [hN])]
      have hR : (if prod es = 0 then (0 : Int) else if allEvenB (readsV 0 ds (stepsV ds)) es = true then (if beyondB 0 (reformSteps (readsV 0 ds (stepsV ds)) es) = true then 5 else 0) else 9) = 0 := by
        by_cases h0 : prod es = 0
        · rw [if_pos h0]
        rw [if_neg h0]
        obtain ⟨hpe, hne, hp2, hp3⟩ : (∀ x ∈ es, 1 ≤ x) ∧ sizeN es = prod es ∧ prod es ≤ 65536 ∧ 1 ≤ prod es := by
          rcases dims_cases hE with ⟨_, _, h2⟩ | h2
          · exact absurd h2 h0
          · exact h2
        have hpd : ∀ x ∈ ds, 1 ≤ x := by
          rcases dims_cases h with ⟨_, _, h2⟩ | ⟨h2, _⟩
          · omega
          · exact h2
        have hlen : (readsV 0 ds (stepsV ds)).length = (prod ds).toNat := readsV_length _ _ _
        have key : ∀ k, k < es.length → EvenP (readsV 0 ds (stepsV ds)) (es[k]?.getD 0).toNat (beh es k).toNat ∧ 0 ≤ stepE (readsV 0 ds (stepsV ds)) (es[k]?.getD 0).toNat (beh es k).toNat ∧ stepE (readsV 0 ds (stepsV ds)) (es[k]?.getD 0).toNat (beh es k).toNat ≤ 65536 := by
          intro k hk
          have hB := beh_pos hpe k
          have hD := getD_pos hpe hk
          obtain ⟨B, hBn⟩ : ∃ B : Nat, beh es k = (B : Int) := ⟨(beh es k).toNat, by omega⟩
          obtain ⟨D, hDn⟩ : ∃ D : Nat, es[k]?.getD 0 = (D : Int) := ⟨(es[k]?.getD 0).toNat, by omega⟩
          rw [hBn, hDn, Int.toNat_natCast, Int.toNat_natCast]
          by_cases hD1 : D = 1
          · refine ⟨.inl hD1, ?_⟩
            unfold stepE; rw [if_pos hD1]; omega
          have hDB : D * B ≤ (prod ds).toNat := by
            have e := prod_drop es k hk
            have h3 := (prod_drop_le es hpe k).2
            have h4 : beh es k = prod (es.drop (k + 1)) := rfl
            rw [← h4, hBn, hDn, ← Int.natCast_mul] at e
            omega
          have hBl : B < (prod ds).toNat := by
            have : B * 1 < B * D := Nat.mul_lt_mul_of_pos_left (by omega) (by omega)
            rw [Nat.mul_comm B D] at this
            omega
          have eB := readsV_whole hpd B hBl
          have e0 := readsV_whole hpd 0 (by omega)
          refine ⟨.inr fun p hp hc => ?_, ?_⟩
          · rw [hlen] at hp
            have hle : p % (D * B) ≤ p := Nat.mod_le _ _
            rw [readsV_whole hpd p hp, readsV_whole hpd (p - B) (by omega), eB, e0]
            omega
          · unfold stepE; rw [if_neg hD1, eB, e0]; omega
        rw [if_pos ((allEvenB_iff _ _).2 fun k hk => (key k hk).1), if_neg ?_]
        have : beyondB 0 (reformSteps (readsV 0 ds (stepsV ds)) es) = false := by
          unfold beyondB
          rw [Bool.or_eq_false_iff]
          refine ⟨by decide, ?_⟩
          rw [List.any_eq_false]
          intro x hx
          simp only [reformSteps, List.mem_map, List.mem_range] at hx
          obtain ⟨k, hk, rfl⟩ := hx
          have := (key k hk).2
          simp [farB]; omega
        rw [this]; simp
      rw [hR]
      simp [hE, hN, hNd]
    · rw [if_pos hN]
      constructor
      · intro h6; omega
      · rintro ⟨_, h2⟩; omega
  · rw [if_pos hE]
    constructor
    · intro h6; exact absurd h6 hE
    · rintro ⟨h1, _⟩; exact absurd h1 hE
end Go.Proofs.Ytfamaaahofjglaa.V
