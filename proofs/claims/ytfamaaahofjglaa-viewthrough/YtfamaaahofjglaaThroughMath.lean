/-
  Plain mathematics: what a view of a view reads is what the first one reads, taken as the second one says of an array as it lies.
-/
import Derived.Test.YtfamaaahofjglaaAgainMath
import Derived.Test.YtfamaaahofjglaaRFlip
import Derived.Test.YtfamaaahofjglaaCutAny
import Derived.Test.YtfamaaahofjglaaSpreadAny
namespace Go.Proofs.Ytfamaaahofjglaa.V

theorem pos_of {D : List Int} (hE : sizeE D = 0) {i : Nat} (hi : i < (prod D).toNat) : ∀ x ∈ D, 1 ≤ x := by
  rcases dims_cases hE with ⟨_, _, h⟩ | ⟨h, _⟩
  · omega
  · exact h

/-- The place of an index, and what lies there. -/
theorem place_lie : ∀ (ds ss y : List Int), ss.length = ds.length → y.length = ds.length → IdxOk ds y → 0 ≤ dotT y (stepsV ds) ds.length ∧ dotT y (stepsV ds) ds.length < prod ds ∧ lieN ds ss (dotT y (stepsV ds) ds.length) = dotT y ss ds.length
  | [], ss, y, _, _, _ => by simp [dotT, prod, lieN]
  | d :: ds, [], _, h, _, _ => by simp at h
  | d :: ds, _, [], _, h, _ => by simp at h
  | d :: ds, t :: ss, a :: y, h1, h2, hi => by
    have hpos := idxOk_pos hi
    have hpos' : ∀ x ∈ ds, 1 ≤ x := fun x hx => hpos x (by simp [hx])
    have hi' : IdxOk ds y := fun k hk => by
      have := hi (k + 1) (by simp; omega)
      simpa using this
    have ha := hi 0 (by simp)
    simp at ha
    obtain ⟨i1, i2, i3⟩ := place_lie ds ss y (by simpa using h1) (by simpa using h2) hi'
    rw [stepsV_cons hpos, List.length_cons, dotT_cons, dotT_cons, prod, lieN]
    obtain ⟨p, hp⟩ : ∃ p, dotT y (stepsV ds) ds.length = p := ⟨_, rfl⟩
    rw [hp] at i1 i2 i3 ⊢
    have hP := prod_pos ds hpos'
    have e1 : (a * prod ds + p) / prod ds = a := by rw [Int.add_comm, Int.add_mul_ediv_right _ _ (by omega), Int.ediv_eq_zero_of_lt i1 i2]; omega
    have e2 : (a * prod ds + p) % prod ds = p := by rw [Int.add_comm, Int.add_mul_emod_self_right, Int.emod_eq_of_lt i1 i2]
    have b1 : 0 ≤ a * prod ds := Int.mul_nonneg ha.1 (by omega)
    have b2 : (a + 1) * prod ds ≤ d * prod ds := Int.mul_le_mul_of_nonneg_right (by omega) (by omega)
    rw [Int.add_mul] at b2
    refine ⟨by omega, by omega, ?_⟩
    rw [e1, e2, i3]

/-- Each entry of what is made is an entry of what it is made of, whatever the steps are. -/
def ThroughP (ds D : List Int) (S : Int → List Int → Int) (T : List Int → List Int) : Prop :=
  ∀ i : Nat, i < (prod D).toNat → ∃ y : List Int, y.length = ds.length ∧ IdxOk ds y ∧ ∀ s ss, ss.length = ds.length → S s ss + lieN D (T ss) i = s + dotT y ss ds.length
/-- What the statement asks. -/
def ReadsThrough (s : Int) (ds ss D : List Int) (S : Int → List Int → Int) (T : List Int → List Int) : Prop :=
  ∀ i : Nat, i < (prod D).toNat → ∃ p : Nat, p < (prod ds).toNat ∧ (readsV (S 0 (stepsV ds)) D (T (stepsV ds)))[i]?.getD 0 = (p : Int) ∧ (readsV (S s ss) D (T ss))[i]?.getD 0 = (readsV s ds ss)[p]?.getD 0
theorem through_of {s : Int} {ds ss D : List Int} {S : Int → List Int → Int} {T : List Int → List Int} (hl : ss.length = ds.length) (h : ThroughP ds D S T) : ReadsThrough s ds ss D S T := by
  intro i hi
  obtain ⟨y, hy, hid, he⟩ := h i hi
  obtain ⟨p0, p1, p2⟩ := place_lie ds ss y hl hy hid
  obtain ⟨p, hp⟩ : ∃ p : Nat, dotT y (stepsV ds) ds.length = (p : Int) := ⟨(dotT y (stepsV ds) ds.length).toNat, by omega⟩
  rw [hp] at p0 p1 p2
  refine ⟨p, by omega, ?_, ?_⟩
  · rw [readsV_getD _ _ _ i hi, he 0 (stepsV ds) (stepsV_len ds), hp]; omega
  · rw [readsV_getD _ _ _ i hi, he s ss hl, readsV_getD s ds ss p (by omega), p2]

/-! ### Turn -/
def sumL : List Int → Int
  | [] => 0
  | x :: r => x + sumL r
theorem sumL_perm {a b : List Int} (h : a.Perm b) : sumL a = sumL b := by
  induction h with
  | nil => rfl
  | cons x _ ih => rw [sumL, sumL, ih]
  | swap x y l => simp only [sumL]; omega
  | trans _ _ ih1 ih2 => rw [ih1, ih2]
theorem sumL_append (a b : List Int) : sumL (a ++ b) = sumL a + sumL b := by
  induction a with
  | nil => simp [sumL]
  | cons x a ih => simp [sumL, ih]; omega
theorem dotT_sumL (xs ys : List Int) : ∀ n, dotT xs ys n = sumL ((List.range n).map fun k => xs[k]?.getD 0 * ys[k]?.getD 0)
  | 0 => rfl
  | n + 1 => by rw [dotT, List.range_succ, List.map_append, sumL_append, dotT_sumL xs ys n]; simp [sumL]
theorem through_turn {ds ps : List Int} (hE : sizeE ds = 0) (hp : PermOk ps ds.length) : ThroughP ds (taken ds ps) (fun s _ => s) (fun ss => taken ss ps) := by
  intro i hi
  have hl := hp.1
  have hpm := taken_perm hp
  have hpos := pos_of (by rw [sizeE_perm hpm]; exact hE) hi
  have hb := dig_bd (taken ds ps) i hpos (by omega) (by omega)
  have hdl : (dig (taken ds ps) i).length = ds.length := by rw [dig_length, taken_length, hl]
  refine ⟨taken (dig (taken ds ps) i) (invL ps), by rw [taken_length, invL_length, hl], fun k hk => ?_, fun s ss hss => ?_⟩
  · obtain ⟨j, h1, h2, h3⟩ := perm_at hp k hk
    have e1 : (taken (dig (taken ds ps) i) (invL ps))[k]?.getD 0 = (dig (taken ds ps) i)[j]?.getD 0 := taken_getD _ _ k j (by rw [invL_length]; omega) (by rw [invL_getD ps k (by omega), hl, h2])
    have e2 : (taken ds ps)[j]?.getD 0 = ds[k]?.getD 0 := taken_getD _ _ j k (by omega) h3
    have := hb j (by rw [taken_length]; omega)
    rw [e1, ← e2]; exact this
  · rw [lieN_dig _ _ _ (by rw [taken_length, taken_length]), taken_length, hl, dotT_sumL, dotT_sumL]
    congr 1
    have hpr : (ps.map Int.toNat).Perm (List.range ds.length) := by
      refine perm_range _ _ (by simp [hl]) (fun k hk => ?_)
      have := (perm_iff hp.1).1 hp.2 k hk
      simp only [List.mem_map]
      exact ⟨(k : Int), this, by simp⟩
    have h2 := sumL_perm (hpr.map (fun k => (taken (dig (taken ds ps) i) (invL ps))[k]?.getD 0 * ss[k]?.getD 0))
    rw [← h2]
    congr 1
    rw [List.map_map]
    apply List.ext_getElem?
    intro j
    by_cases hj : j < ds.length
    · have hjp : j < ps.length := by omega
      have hpj := hp.2 j hj
      obtain ⟨m, hm⟩ : ∃ m : Nat, ps[j]?.getD 0 = (m : Int) := ⟨(ps[j]?.getD 0).toNat, by omega⟩
      have hmn : m < ds.length := by omega
      obtain ⟨j', h1, h2', h3⟩ := perm_at hp m hmn
      have ejj := perm_inj hp hj h1 (hm.trans h3.symm)
      subst ejj
      have e1 : (taken (dig (taken ds ps) i) (invL ps))[m]?.getD 0 = (dig (taken ds ps) i)[j]?.getD 0 := taken_getD _ _ m j (by rw [invL_length]; omega) (by rw [invL_getD ps m (by omega), hl, h2'])
      have e2 : (taken ss ps)[j]?.getD 0 = ss[m]?.getD 0 := taken_getD _ _ j m hjp hm
      have hm' : ps[j] = (m : Int) := by simpa [hjp] using hm
      simp only [List.getElem?_map, List.getElem?_range hj, Option.map_some, List.getElem?_eq_getElem hjp, Function.comp, hm', Int.toNat_natCast, e1, e2]
    · rw [List.getElem?_eq_none (by simp; omega), List.getElem?_eq_none (by simp; omega)]

/-! ### Flip -/
theorem through_flip {ds ps : List Int} (hE : sizeE ds = 0) (hp : RiseOk ps ds.length) : ThroughP ds ds (fun s ss => flipAcc s ds ss ps ps.length) (fun ss => flipL ss ps) := by
  intro i hi
  have hpos := pos_of hE hi
  have hb := dig_bd ds i hpos (by omega) (by omega)
  refine ⟨(List.range ds.length).map fun k => if inB ps k = true then ds[k]?.getD 0 - 1 - (dig ds i)[k]?.getD 0 else (dig ds i)[k]?.getD 0, by simp, fun k hk => ?_, fun s ss hss => ?_⟩
  · have := hb k hk
    simp only [List.getElem?_map, List.getElem?_range hk, Option.map_some, Option.getD_some]
    split <;> omega
  · show flipAcc s ds ss ps ps.length + lieN ds (flipL ss ps) i = _
    rw [← rAcc_flipAcc s ds ss ps ds.length hp, lieN_dig ds _ _ (by rw [flipL_length]; exact hss)]
    have key : ∀ k, k ≤ ds.length → rAcc s ds ss ps k + dotT (dig ds i) (flipL ss ps) k = s + dotT ((List.range ds.length).map fun k => if inB ps k = true then ds[k]?.getD 0 - 1 - (dig ds i)[k]?.getD 0 else (dig ds i)[k]?.getD 0) ss k := by
      intro k
      induction k with
      | zero => intro _; simp [rAcc, dotT]
      | succ k ih =>
        intro hk
        have ih' := ih (by omega)
        have hk' : k < ds.length := by omega
        have hd := hpos _ (mem_getD ds k hk')
        rw [rAcc, dotT, dotT, flipL_getD ss ps k (by omega)]
        simp only [List.getElem?_map, List.getElem?_range hk', Option.map_some, Option.getD_some]
        by_cases c : inB ps k = true
        · rw [if_pos c, if_pos c, if_pos c]
          unfold flipTerm
          rw [if_pos (by omega)]
          simp only [Int.sub_mul, Int.mul_neg, Int.one_mul]
          omega
        · rw [if_neg c, if_neg c, if_neg c]
          omega
    exact key ds.length (Nat.le_refl _)

/-! ### Cut -/
theorem cutAcc_eq (s : Int) (ss lo : List Int) : ∀ n, cutAcc s ss lo n = s + dotT lo ss n
  | 0 => by simp [cutAcc, dotT]
  | n + 1 => by rw [cutAcc, cutAcc_eq s ss lo n, dotT]; omega
theorem kept_lt {l h t x : Int} (ht : 1 ≤ t) (hx : x < keptN l h t) : l + x * t < h := by
  unfold keptN at hx
  have h1 := Int.mul_ediv_add_emod (h - l + t - 1) t
  have h2 := Int.emod_nonneg (h - l + t - 1) (show t ≠ 0 by omega)
  have h3 : t * (x + 1) ≤ t * ((h - l + t - 1) / t) := Int.mul_le_mul_of_nonneg_left (by omega) (by omega)
  rw [Int.mul_add, Int.mul_comm t x] at h3
  omega
theorem through_cut {ds lo hi st : List Int} (hE : sizeE (cutD ds lo hi st) = 0) (hb : anyBad ds lo hi st = false) : ThroughP ds (cutD ds lo hi st) (fun s ss => cutAcc s ss lo ds.length) (fun ss => cutS ss st) := by
  intro i hi'
  have hpos := pos_of hE hi'
  have hbd := dig_bd (cutD ds lo hi st) i hpos (by omega) (by omega)
  have hcl := cutD_length ds lo hi st
  refine ⟨(List.range ds.length).map fun k => lo[k]?.getD 0 + (dig (cutD ds lo hi st) i)[k]?.getD 0 * st[k]?.getD 0, by simp, fun k hk => ?_, fun s ss hss => ?_⟩
  · have h1 := hbd k (by omega)
    rw [cutD_getD ds lo hi st k hk] at h1
    have h2 := badCut_false (of_anyBad_false hb k hk)
    have h3 := kept_lt h2.2.2.2.1 h1.2
    have h4 : 0 ≤ (dig (cutD ds lo hi st) i)[k]?.getD 0 * st[k]?.getD 0 := Int.mul_nonneg h1.1 (by omega)
    simp only [List.getElem?_map, List.getElem?_range hk, Option.map_some, Option.getD_some]
    omega
  · show cutAcc s ss lo ds.length + lieN (cutD ds lo hi st) (cutS ss st) i = _
    rw [lieN_dig _ _ _ (by rw [cutS_length, hcl]; exact hss), cutAcc_eq, hcl]
    have key : ∀ k, k ≤ ds.length → dotT lo ss k + dotT (dig (cutD ds lo hi st) i) (cutS ss st) k = dotT ((List.range ds.length).map fun k => lo[k]?.getD 0 + (dig (cutD ds lo hi st) i)[k]?.getD 0 * st[k]?.getD 0) ss k := by
      intro k
      induction k with
      | zero => intro _; simp [dotT]
      | succ k ih =>
        intro hk
        have ih' := ih (by omega)
        have hk' : k < ds.length := by omega
        rw [dotT, dotT, dotT, cutS_getD ss st k (by omega)]
        simp only [List.getElem?_map, List.getElem?_range hk', Option.map_some, Option.getD_some]
        rw [Int.add_mul, Int.mul_assoc]
        omega
    have := key ds.length (Nat.le_refl _)
    omega

/-! ### Spread -/
theorem dotT_put (x : List Int) (f g : Nat → Int) (N m : Nat) (c : Int) (hg : ∀ j, g j = if j = m then c else f j) : ∀ n, n ≤ N → dotT x ((List.range N).map g) n = dotT x ((List.range N).map f) n + if m < n then x[m]?.getD 0 * (c - f m) else 0
  | 0, _ => by simp [dotT]
  | n + 1, hn => by
    have ih := dotT_put x f g N m c hg n (by omega)
    have hn' : n < N := by omega
    rw [dotT, dotT, ih]
    simp only [List.getElem?_map, List.getElem?_range hn', Option.map_some, Option.getD_some, hg n]
    by_cases e : n = m
    · subst e
      rw [if_pos rfl, if_neg (by omega), if_pos (by omega), Int.mul_sub]
      omega
    · rw [if_neg e]
      by_cases h : m < n
      · rw [if_pos h, if_pos (by omega)]; omega
      · rw [if_neg h, if_neg (by omega)]; omega
theorem dotT_zero (x : List Int) (N : Nat) : ∀ n, n ≤ N → dotT x ((List.range N).map fun _ => (0 : Int)) n = 0
  | 0, _ => rfl
  | n + 1, hn => by
    have hn' : n < N := by omega
    rw [dotT, dotT_zero x N n (by omega)]
    simp only [List.getElem?_map, List.getElem?_range hn', Option.map_some, Option.getD_some]
    omega
theorem sprV_none {ss ps : List Int} {m : Nat} : ∀ i, (∀ k, k < i → (ps[k]?.getD 0).toNat ≠ m) → sprV ss ps i m = 0
  | 0, _ => rfl
  | i + 1, h => by rw [sprV, if_neg (fun e => h i (by omega) e.symm), sprV_none i (fun k hk => h k (by omega))]
theorem through_spread {ds es ps : List Int} (hE : sizeE es = 0) (hl : ps.length = ds.length) (hp : RiseOk ps es.length) (hm : anyMis ds es ps = false) : ThroughP ds es (fun s _ => s) (fun ss => sprS es.length ss ps) := by
  intro i hi
  have hpos := pos_of hE hi
  have hb := dig_bd es i hpos (by omega) (by omega)
  refine ⟨(List.range ds.length).map fun k => (dig es i)[(ps[k]?.getD 0).toNat]?.getD 0, by simp, fun k hk => ?_, fun s ss hss => ?_⟩
  · have h1 := hp k (by omega)
    have h2 := hb (ps[k]?.getD 0).toNat (by omega)
    have h3 : misAt ds es ps k = false := by
      unfold anyMis at hm
      rw [List.any_eq_false] at hm
      have := hm k (List.mem_range.2 (by omega))
      simpa using this
    simp [misAt] at h3
    simp only [List.getElem?_map, List.getElem?_range hk, Option.map_some, Option.getD_some]
    rw [h3]; exact h2
  · rw [lieN_dig _ _ _ (by rw [sprS_length])]
    have key : ∀ k, k ≤ ds.length → dotT (dig es i) ((List.range es.length).map (sprV ss ps k)) es.length = dotT ((List.range ds.length).map fun k => (dig es i)[(ps[k]?.getD 0).toNat]?.getD 0) ss k := by
      intro k
      induction k with
      | zero => intro _; exact dotT_zero _ _ _ (Nat.le_refl _)
      | succ k ih =>
        intro hk
        have ih' := ih (by omega)
        have hk' : k < ds.length := by omega
        have h1 := hp k (by omega)
        have hf : sprV ss ps k (ps[k]?.getD 0).toNat = 0 := sprV_none k fun j hj e => by
          have h2 := rise_lt hp j k hj (by omega)
          have h3 := hp j (by omega)
          omega
        have e := dotT_put (dig es i) (sprV ss ps k) (sprV ss ps (k + 1)) es.length (ps[k]?.getD 0).toNat (ss[k]?.getD 0) (fun j => rfl) es.length (Nat.le_refl _)
        rw [e, ih', if_pos (by omega), hf, dotT, Int.sub_zero]
        simp only [List.getElem?_map, List.getElem?_range hk', Option.map_some, Option.getD_some]
    have := key ds.length (Nat.le_refl _)
    unfold sprS
    rw [hl, this]
end Go.Proofs.Ytfamaaahofjglaa.V
