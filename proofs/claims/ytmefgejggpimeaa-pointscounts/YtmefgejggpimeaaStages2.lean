/-
  A region that draws its order: readers, one store behind most of them (some may come behind the store), then the rest.
-/
import Derived.Test.YtmefgejggpimeaaStages
namespace Go.Proofs.Ytmefgejggpimeaa.V
open Go

section
variable {F : Fence} {n : Nat} {P : Program} {Q : Exit → Act → World → Prop} {ops : List Oper}

/-- M readers from i on. -/
def stage2Ok (ops : List Oper) (i M : Nat) : Bool :=
  decide (i + M + 1 < ops.length) && backOk ops && waitOk ops (i + M + 1) &&
  (List.range M).all (fun j => (ops[i + j]?.map fun o => o.guard.isNone && plainOp o.op).getD false) &&
  (List.range M).all (fun j => (ops[i + j]?.bind (·.dst)).isSome && (List.range M).all fun k => k == j || (ops[i + k]?.bind (·.dst)) != (ops[i + j]?.bind (·.dst))) &&
  (List.range (M + 1)).all (fun j => (List.range (M + 2)).any fun k => decide (j < k) && ((ops[i + k]?.map fun o => hasEdge o (i + j)).getD false)) &&
  (List.range (M + 1)).all (fun j => (List.range M).all fun k =>
    match ops[i + k]?, ops[i + j]? with
    | some ok, some oj => match ok.dst with
      | some d => !(oj.op.operands.toList.any fun x => match x with | .tmp t => t == d | _ => false) || (decide (k < j) && hasEdge oj (i + k))
      | none => true
    | _, _ => false)

structure SOk2 (ops : List Oper) (i M : Nat) : Prop where
  len : i + M + 1 < ops.length
  back : backOk ops = true
  wait : waitOk ops (i + M + 1) = true
  bare : ∀ (j : Nat) (o : Oper), j < M → ops[i + j]? = some o → o.guard = none ∧ plainOp o.op = true
  dsts : ∀ (j : Nat) (o : Oper), j < M → ops[i + j]? = some o → ∃ d, o.dst = some d
  apart : ∀ (k j : Nat) (ok oj : Oper), k < M → j < M → ops[i + k]? = some ok → ops[i + j]? = some oj → ok.dst = oj.dst → k = j
  succ : ∀ (j : Nat), j ≤ M → ∃ k o, j < k ∧ k ≤ M + 1 ∧ ops[i + k]? = some o ∧ ∃ e ∈ o.after, Region.binds .any e = true ∧ e.on = i + j
  data : ∀ (k j : Nat) (ok oj : Oper) (d : Nat), k < M → j ≤ M → ops[i + k]? = some ok → ops[i + j]? = some oj → ok.dst = some d → Operand.tmp d ∈ oj.op.operands → k < j ∧ ∃ e ∈ oj.after, Region.binds .any e = true ∧ e.on = i + k

theorem sok2_of {i M : Nat} (h : stage2Ok ops i M = true) : SOk2 ops i M := by
  unfold stage2Ok at h
  simp only [Bool.and_eq_true, List.all_eq_true, List.mem_range, decide_eq_true_eq] at h
  obtain ⟨⟨⟨⟨⟨⟨h1, h2⟩, h3⟩, h4⟩, h5⟩, h6⟩, h7⟩ := h
  refine ⟨h1, h2, h3, fun j o hj ho => ?_, fun j o hj ho => ?_, fun k j ok oj hk hj hok hoj he => ?_, fun j hj => ?_, fun k j ok oj d hk hj hok hoj hd hmem => ?_⟩
  · have := h4 j hj
    rw [ho] at this
    simpa using this
  · have := (h5 j hj).1
    rw [ho] at this
    simpa [Option.isSome_iff_exists] using this
  · have := (h5 j hj).2 k hk
    rw [hok, hoj] at this
    simp [he] at this
    exact this
  · have := h6 j (by omega)
    rw [List.any_eq_true] at this
    obtain ⟨k, hk, h⟩ := this
    simp only [List.mem_range, Bool.and_eq_true, decide_eq_true_eq] at hk h
    cases ho : ops[i + k]? with
    | none => rw [ho] at h; simp at h
    | some o =>
      rw [ho] at h
      exact ⟨k, o, h.1, by omega, ho, edge_of (by simpa using h.2)⟩
  · have := h7 j (by omega) k hk
    rw [hok, hoj] at this
    simp only [hd] at this
    have hy : (oj.op.operands.toList.any fun x => match x with | .tmp t => t == d | _ => false) = true := by
      rw [List.any_eq_true]
      exact ⟨.tmp d, by simpa using hmem, by simp⟩
    rw [hy] at this
    simp at this
    exact ⟨this.1, edge_of this.2⟩

variable {i M : Nat} {a : Act} (t : Path ops i a M)
theorem Path.facts2 (ok : SOk2 ops i M) : ∀ k, k ≤ M → (t.act k).defers = a.defers ∧ (t.act k).tmps.size = a.tmps.size ∧
    (∀ d, (∀ j o, j < k → ops[i + j]? = some o → o.dst ≠ some d) → (t.act k).tmps.getD d undef = a.tmps.getD d undef)
  | 0, _ => by rw [t.zero]; exact ⟨rfl, rfl, fun _ _ => rfl⟩
  | k + 1, h => by
    obtain ⟨h1, h2, h3⟩ := Path.facts2 ok k (by omega)
    obtain ⟨o, ho⟩ : ∃ o, ops[i + k]? = some o := by
      have := ok.len
      exact ⟨ops[i + k]'(by omega), List.getElem?_eq_getElem (by omega)⟩
    rw [t.step k o (by omega) ho]
    refine ⟨by rw [put_defs, h1], by rw [put_size, h2], fun d hd => ?_⟩
    obtain ⟨d', hd'⟩ := ok.dsts k o (by omega) ho
    rw [hd', put_getD_ne _ _ _ _ (fun e => hd k o (by omega) ho (by rw [hd', e]))]
    exact h3 d (fun j o hj ho => hd j o (by omega) ho)
theorem Path.later2 (ok : SOk2 ops i M) {j : Nat} {o : Oper} {d : Nat} (hj : j < M) (ho : ops[i + j]? = some o) (hd : o.dst = some d) : ∀ k, j < k → k ≤ M → (t.act k).tmps.getD d undef = (t.act (j + 1)).tmps.getD d undef
  | 0, h, _ => by omega
  | k + 1, h, hk => by
    by_cases e : j = k
    · rw [e]
    obtain ⟨o', ho'⟩ : ∃ o, ops[i + k]? = some o := by
      have := ok.len
      exact ⟨ops[i + k]'(by omega), List.getElem?_eq_getElem (by omega)⟩
    obtain ⟨d', hd'⟩ := ok.dsts k o' (by omega) ho'
    rw [t.step k o' (by omega) ho', hd', put_getD_ne _ _ _ _ (fun e2 => e (ok.apart j k o o' hj (by omega) ho ho' (by rw [hd, hd', e2]))), Path.later2 ok hj ho hd k (by omega) (by omega)]

theorem pinv_step2 (ok : SOk2 ops i M) {listed : Array Bool} {c : Act} (hi : PInv t listed c) {j : Nat} {o : Oper} (hj : j < M) (ho : ops[i + j]? = some o) (hsz : listed.size = ops.length) (hun : listed.getD (i + j) false = false) : PInv t (listed.setIfInBounds (i + j) true) (c.put o.dst (t.val j)) := by
  obtain ⟨h1, h2, h3, h4⟩ := hi
  obtain ⟨d, hd⟩ := ok.dsts j o hj ho
  have e1 := t.step j o hj ho
  obtain ⟨f1, f2, _⟩ := t.facts2 ok j (by omega)
  have hlen := ok.len
  refine ⟨by rw [put_defs, h1], by rw [put_size, h2], fun k oi d' hi' hoi hd' hl => ?_, fun d' hall => ?_⟩
  · by_cases e : k = j
    · subst e
      rw [ho] at hoi; cases hoi
      rw [hd] at hd'; cases hd'
      rw [hd, t.later2 ok hj ho hd M (by omega) (by omega), e1, hd]
      exact put_getD_same _ _ _ _ (by rw [h2, f2])
    · rw [hd, put_getD_ne _ _ _ _ (fun e2 => e (ok.apart k j oi o hi' hj hoi ho (by rw [hd, hd', e2])))]
      exact h3 k oi d' hi' hoi hd' (by rw [getD_set_ne false (by omega)] at hl; exact hl)
  · have hne : d ≠ d' := fun e2 => by
      have := hall j o hj ho (by rw [hd, e2])
      simp [hsz] at this
      omega
    rw [hd, put_getD_ne _ _ _ _ hne]
    refine h4 d' (fun k oi hi' hoi hd' => ?_)
    have := hall k oi hi' hoi hd'
    by_cases e : j = k
    · subst e; exact hun
    · rwa [getD_set_ne false (by omega)] at this

theorem pinv_eval2 (ok : SOk2 ops i M) {listed : Array Bool} {c : Act} (hi : PInv t listed c) {j : Nat} {o : Oper} (hj : j ≤ M) (ho : ops[i + j]? = some o) (hr : ∀ e ∈ o.after, Region.binds .any e = true → listed.getD e.on false = true) :
    ∀ x ∈ o.op.operands, c.eval x = (t.act j).eval x := by
  obtain ⟨h1, h2, h3, h4⟩ := hi
  intro x hx
  cases x with
  | tmp d =>
    show c.tmps.getD d undef = (t.act j).tmps.getD d undef
    obtain ⟨_, _, f3⟩ := t.facts2 ok j (by omega)
    by_cases hex : ∃ (k : Nat) (oi : Oper), k < M ∧ ops[i + k]? = some oi ∧ oi.dst = some d
    · obtain ⟨k, oi, him, hoi, hdi⟩ := hex
      obtain ⟨hij, e, he, hb, hon⟩ := ok.data k j oi o d him hj hoi ho hdi hx
      have hl := hr e he hb
      rw [hon] at hl
      rw [h3 k oi d him hoi hdi hl, t.later2 ok him hoi hdi M (by omega) (by omega), t.later2 ok him hoi hdi j hij (by omega)]
    · rw [h4 d (fun k oi him hoi hdi => absurd ⟨k, oi, him, hoi, hdi⟩ hex), f3 d (fun k oi hij hoi hdi => hex ⟨k, oi, by omega, hoi, hdi⟩)]
  | _ => rfl

theorem pinv_all2 (ok : SOk2 ops i M) {listed : Array Bool} {c : Act} (hi : PInv t listed c) (hall : ∀ j, j < M → listed.getD (i + j) false = true) : c = t.act M := by
  obtain ⟨h1, h2, h3, h4⟩ := hi
  obtain ⟨f1, f2, f3⟩ := t.facts2 ok M (by omega)
  have key : ∀ d, c.tmps.getD d undef = (t.act M).tmps.getD d undef := fun d => by
    by_cases hex : ∃ (k : Nat) (oi : Oper), k < M ∧ ops[i + k]? = some oi ∧ oi.dst = some d
    · obtain ⟨k, oi, him, hoi, hdi⟩ := hex
      exact h3 k oi d him hoi hdi (hall k him)
    · rw [h4 d (fun k oi him hoi hdi => absurd ⟨k, oi, him, hoi, hdi⟩ hex), f3 d (fun k oi hij hoi hdi => hex ⟨k, oi, by omega, hoi, hdi⟩)]
  have ht : c.tmps = (t.act M).tmps := by
    apply Array.ext
    · rw [h2, f2]
    · intro i hi1 hi2
      have := key i
      simpa [hi1, hi2] using this
  cases c
  cases hA : t.act M
  simp only [hA] at *
  rw [h1, ← f1, ht]


/-- The store waits for it. -/
def waitsFor (os : Oper) (j : Nat) : Prop := ∃ e ∈ os.after, Region.binds .any e = true ∧ e.on = j
theorem any_of_path2 {W0 W1 : World} {os : Oper} {vs : Next} (ok : SOk2 ops i M) (hos : ops[i + M]? = some os) (hsd : os.dst = none) (hsg : os.guard = none) (hsp : plainOp os.op = true) (hvs : vs = .skip ∨ ∃ v, vs = .value v)
    (h0 : ∀ j o, j < M → ops[i + j]? = some o → ((execOp (t.act j).eval o).run P W0 = .ok (.value (t.val j)) W0 ∧ o.about P W0 (t.act j).eval = none) ∧ (¬ waitsFor os (i + j) → (execOp (t.act j).eval o).run P W1 = .ok (.value (t.val j)) W1 ∧ o.about P W1 (t.act j).eval = none))
    (hst : (execOp (t.act M).eval os).run P W0 = .ok vs W1 ∧ os.about P W0 (t.act M).eval = none) (hend : Upto F n P Q ops (i + M + 1) (t.act M) W1) :
    ∀ (fuel : Nat) (listed : Array Bool) (c : Act), listed.size = ops.length → (∀ j, j < i → listed.getD j false = true) → (∀ j, i + M + 1 ≤ j → j < ops.length → listed.getD j false = false) → lack listed i (M + 1) + (ops.length - (i + M + 1)) ≤ fuel → PInv t listed c →
      (∀ j o, j ≤ M → ops[i + j]? = some o → listed.getD (i + j) false = true → ∀ e ∈ o.after, Region.binds .any e = true → listed.getD e.on false = true) → wpAnyIn F n P .any ops.toArray Q fuel listed c (if listed.getD (i + M) false = true then W1 else W0) := by
  intro fuel
  have hlen := ok.len
  induction fuel with
  | zero => intro listed c _ _ _ h; omega
  | succ fuel ih =>
    intro listed c hsz hpre htail hle hinv hcl
    have hgt : ∀ j, j < ops.length → (listed.getD j true = false ↔ listed.getD j false = false) := fun j hj => by simp [hsz, hj]
    by_cases hall : ∀ j, j ≤ M → listed.getD (i + j) false = true
    · have hc := pinv_all2 t ok hinv (fun j hj => hall j (by omega))
      subst hc
      rw [if_pos (hall M (Nat.le_refl _))]
      refine hend (fuel + 1) listed hsz (fun j hj => ?_) (by omega)
      by_cases h1 : j < i
      · simp [hpre j h1]; omega
      · by_cases h2 : j < i + M + 1
        · have := hall (j - i) (by omega)
          rw [show i + (j - i) = j by omega] at this
          simp [this, h2]
        · rw [htail j (by omega) hj]; simp; omega
    refine ⟨fun hre => ?_, fun k hk => ?_⟩
    · exfalso
      have hmin : ∀ k, k ≤ M + 1 → (∀ j, j < k → listed.getD (i + j) false = true) ∨ ∃ j, j < k ∧ listed.getD (i + j) false = false ∧ ∀ x, x < j → listed.getD (i + x) false = true := by
        intro k
        induction k with
        | zero => intro _; exact .inl (fun j hj => by omega)
        | succ k ihk =>
          intro hk
          rcases ihk (by omega) with h | ⟨j, hj, h⟩
          · by_cases hb : listed.getD (i + k) false = true
            · exact .inl (fun j hj => by by_cases e : j = k; (rw [e]; exact hb); exact h j (by omega))
            · exact .inr ⟨k, by omega, by simpa using hb, h⟩
          · exact .inr ⟨j, by omega, h⟩
      rcases hmin (M + 1) (Nat.le_refl _) with h | ⟨j, hj, hf, hb⟩
      · exact hall (fun j hj => h j (by omega))
      have : i + j ∈ Region.ready .any ops.toArray listed := by
        rw [mem_ready]
        refine ⟨(hgt (i + j) (by omega)).2 hf, ops[i + j]'(by omega), by simp, fun e he hbd => ?_⟩
        have hbk := back_of ok.back (i + j) _ (List.getElem?_eq_getElem (by omega)) e he hbd
        by_cases h1 : e.on < i
        · exact hpre _ h1
        · have := hb (e.on - i) (by omega)
          rwa [show i + (e.on - i) = e.on by omega] at this
      rw [hre] at this
      cases this
    · obtain ⟨hun, o, ho, hr⟩ := mem_ready.1 hk
      have ho' : ops[k]? = some o := by simpa using ho
      have hkl := (List.getElem?_eq_some_iff.1 ho').1
      have hun' := (hgt k hkl).1 hun
      have hki : i ≤ k := by
        by_cases h : i ≤ k
        · exact h
        · have := hpre k (by omega)
          rw [this] at hun'; cases hun'
      -- none behind the stage is ready: all of the stage would have come
      have hkM : k < i + M + 1 := by
        by_cases hkM : k < i + M + 1
        · exact hkM
        · exfalso
          have hk' : k = i + M + 1 := by
            by_cases e : k = i + M + 1
            · exact e
            · exfalso
              obtain ⟨j, h1, h2, e', he', hb', hon⟩ := wait_of ok.wait k o (by omega) ho'
              have := hr e' he' hb'
              rw [hon, htail j h1 (by omega)] at this
              cases this
          subst hk'
          refine hall ?_
          have hdown : ∀ d j, j + d = M + 1 → 0 < d → listed.getD (i + j) false = true := by
            intro d
            induction d using Nat.strongRecOn with
            | ind d ihd =>
              intro j hj hd
              obtain ⟨s, os', hjs, hsM, hos', e, he, hb, hon⟩ := ok.succ j (by omega)
              by_cases e1 : s = M + 1
              · subst e1
                rw [show i + (M + 1) = i + M + 1 by omega, ho'] at hos'; cases hos'
                have := hr e he hb
                rwa [hon] at this
              · have := ihd (M + 1 - s) (by omega) s (by omega) (by omega)
                have := hcl s os' (by omega) hos' this e he hb
                rwa [hon] at this
          exact fun j hj => hdown (M + 1 - j) j (by omega) (by omega)
      obtain ⟨j, rfl⟩ : ∃ j, k = i + j := ⟨k - i, by omega⟩
      have hj : j ≤ M := by omega
      have hev := pinv_eval2 t ok hinv hj ho' hr
      have hset : ∀ x, x ≠ i + j → (listed.setIfInBounds (i + j) true).getD x false = listed.getD x false := fun x hx => getD_set_ne false (Ne.symm hx)
      have hcl' : ∀ x o', x ≤ M → ops[i + x]? = some o' → (listed.setIfInBounds (i + j) true).getD (i + x) false = true → ∀ e ∈ o'.after, Region.binds .any e = true → (listed.setIfInBounds (i + j) true).getD e.on false = true := by
        intro x o' hx hox hlx e he hb
        by_cases e1 : e.on = i + j
        · rw [e1]; simp [hsz, hkl]
        · rw [hset _ e1]
          by_cases e2 : j = x
          · subst e2
            rw [ho'] at hox; cases hox
            exact hr e he hb
          · rw [hset _ (by omega)] at hlx
            exact hcl x o' hx hox hlx e he hb
      have hlk := lack_set listed i j (by omega) hun' (M + 1) (by omega)
      unfold wpOpIn
      simp only [ho]
      by_cases hjM : j = M
      · -- the store
        subst hjM
        rw [hos] at ho'
        cases ho'
        rw [if_pos (by simp [Region.wanted, hsg]), if_neg (by rw [hun']; simp)]
        have hnd : ∀ c, os.op ≠ .defer c := fun c e => by rw [e] at hsp; simp [plainOp] at hsp
        have hns : ∀ cs b, os.op ≠ .select cs b := fun cs b e => by rw [e] at hsp; simp [plainOp] at hsp
        obtain ⟨q1, q2⟩ := hst
        have hnext : wpAnyIn F n P .any ops.toArray Q fuel (listed.setIfInBounds (i + j) true) c W1 := by
          have := ih (listed.setIfInBounds (i + j) true) c (by simp [hsz]) (fun x hx => by rw [hset _ (by omega)]; exact hpre x hx) (fun x h1 h2 => by rw [hset _ (by omega)]; exact htail x h1 h2) (by omega) ?_ hcl'
          · rwa [if_pos (by simp [hsz, hkl])] at this
          · obtain ⟨i1, i2, i3, i4⟩ := hinv
            refine ⟨i1, i2, fun k ok' d hk hok hd hl => i3 k ok' d hk hok hd (by rw [hset _ (by omega)] at hl; exact hl), fun d hd => i4 d (fun k ok' hk hok hdk => ?_)⟩
            have := hd k ok' hk hok hdk
            rwa [hset _ (by omega)] at this
        refine ⟨fun f hf => ?_, ?_⟩
        · rw [about_congr os _ hev, q2] at hf; cases hf
        · rw [Oper.semAt_plain F _ _ hnd, execOp_congr os hns hev, q1]
          rcases hvs with rfl | ⟨v, rfl⟩
          · simp only [Oper.uponIn, hsd, Act.put]; exact hnext
          · simp only [Oper.uponIn, hsd, Act.put]; exact hnext
      · have hj' : j < M := by omega
        obtain ⟨hg, hp⟩ := ok.bare j o hj' ho'
        have hnd : ∀ c, o.op ≠ .defer c := fun c e => by rw [e] at hp; simp [plainOp] at hp
        have hns : ∀ cs b, o.op ≠ .select cs b := fun cs b e => by rw [e] at hp; simp [plainOp] at hp
        rw [if_pos (by simp [Region.wanted, hg])]
        have hstep := ih (listed.setIfInBounds (i + j) true) (c.put o.dst (t.val j)) (by simp [hsz]) (fun x hx => by rw [hset _ (by omega)]; exact hpre x hx) (fun x h1 h2 => by rw [hset _ (by omega)]; exact htail x h1 h2) (by omega) (pinv_step2 t ok hinv hj' ho' hsz hun') hcl'
        rw [hset (i + M) (by omega)] at hstep
        have hq : (execOp (t.act j).eval o).run P (if listed.getD (i + M) false = true then W1 else W0) = .ok (.value (t.val j)) (if listed.getD (i + M) false = true then W1 else W0) ∧ o.about P (if listed.getD (i + M) false = true then W1 else W0) (t.act j).eval = none := by
          by_cases hl : listed.getD (i + M) false = true
          · rw [if_pos hl]
            refine (h0 j o hj' ho').2 ?_
            rintro ⟨e, he, hb, hon⟩
            have := hcl M os (Nat.le_refl _) hos hl e he hb
            rw [hon, hun'] at this
            cases this
          · rw [if_neg hl]
            exact (h0 j o hj' ho').1
        obtain ⟨q1, q2⟩ := hq
        refine ⟨fun f hf => ?_, ?_⟩
        · rw [about_congr o _ hev, q2] at hf; cases hf
        · rw [Oper.semAt_plain F _ _ hnd, execOp_congr o hns hev, q1]
          exact hstep

/-- The readers one behind the other; those for which the store does not wait answer the same behind it. -/
def Reads2 (P : Program) (W0 W1 : World) (os : Oper) : Nat → List Oper → Act → (Act → Prop) → Prop
  | _, [], a, K => K a
  | j, o :: r, a, K => ∃ v, ((execOp a.eval o).run P W0 = .ok (.value v) W0 ∧ o.about P W0 a.eval = none) ∧ (hasEdge os j = true ∨ ((execOp a.eval o).run P W1 = .ok (.value v) W1 ∧ o.about P W1 a.eval = none)) ∧ Reads2 P W0 W1 os (j + 1) r (a.put o.dst v) K
theorem Reads2.early {P : Program} {W0 W1 : World} {os o : Oper} {j : Nat} {r : List Oper} {a : Act} {K : Act → Prop} {v : Value} (he : hasEdge os j = true) (h1 : (execOp a.eval o).run P W0 = .ok (.value v) W0) (h2 : o.about P W0 a.eval = none) (h : Reads2 P W0 W1 os (j + 1) r (a.put o.dst v) K) : Reads2 P W0 W1 os j (o :: r) a K := ⟨v, ⟨h1, h2⟩, .inl he, h⟩
theorem Reads2.late {P : Program} {W0 W1 : World} {os o : Oper} {j : Nat} {r : List Oper} {a : Act} {K : Act → Prop} {v : Value} (h1 : (execOp a.eval o).run P W0 = .ok (.value v) W0) (h2 : o.about P W0 a.eval = none) (h3 : (execOp a.eval o).run P W1 = .ok (.value v) W1) (h4 : o.about P W1 a.eval = none) (h : Reads2 P W0 W1 os (j + 1) r (a.put o.dst v) K) : Reads2 P W0 W1 os j (o :: r) a K := ⟨v, ⟨h1, h2⟩, .inr ⟨h3, h4⟩, h⟩
theorem Reads2.nil {P : Program} {W0 W1 : World} {os : Oper} {j : Nat} {a : Act} {K : Act → Prop} (h : K a) : Reads2 P W0 W1 os j [] a K := h
theorem path_of_reads2 {W0 W1 : World} {os : Oper} {K : Act → Prop} : ∀ (l ops : List Oper) (b : Nat) (a : Act), Reads2 P W0 W1 os b l a K → (∀ j, j < l.length → ops[j]? = l[j]?) →
    ∃ (act : Nat → Act) (val : Nat → Value), act 0 = a ∧ (∀ j o, j < l.length → ops[j]? = some o → act (j + 1) = (act j).put o.dst (val j) ∧ ((execOp (act j).eval o).run P W0 = .ok (.value (val j)) W0 ∧ o.about P W0 (act j).eval = none) ∧ (hasEdge os (b + j) = true ∨ ((execOp (act j).eval o).run P W1 = .ok (.value (val j)) W1 ∧ o.about P W1 (act j).eval = none))) ∧ K (act l.length)
  | [], ops, b, a, h, _ => ⟨fun _ => a, fun _ => undef, rfl, fun j o hj => absurd hj (by simp), h⟩
  | o :: r, ops, b, a, ⟨v, hv, hv2, h3⟩, he => by
    obtain ⟨act, val, z, st, hk⟩ := path_of_reads2 r (ops.drop 1) (b + 1) (a.put o.dst v) h3 (fun j hj => by
      have := he (j + 1) (by simp; omega)
      simpa [Nat.add_comm] using this)
    refine ⟨fun j => match j with | 0 => a | j + 1 => act j, fun j => match j with | 0 => v | j + 1 => val j, rfl, ?_, by simpa using hk⟩
    intro j o' hj ho'
    cases j with
    | zero =>
      have := he 0 (by simp)
      rw [ho'] at this
      simp at this
      subst this
      exact ⟨z, hv, hv2⟩
    | succ j =>
      have := st j o' (by simpa using hj) (by simpa [Nat.add_comm] using ho')
      rwa [show b + 1 + j = b + (j + 1) by omega] at this

/-- **Readers, then a store.** -/
theorem Upto.store {c : Act} {W0 W1 : World} {os : Oper} (M : Nat) (hok : stage2Ok ops 0 M = true) (hos : ops[M]? = some os) (hsd : os.dst = none) (hsg : os.guard = none) (hsp : plainOp os.op = true)
    (h : Reads2 P W0 W1 os 0 (ops.take M) c (fun A => (∃ vs, (vs = .skip ∨ ∃ v, vs = .value v) ∧ (execOp A.eval os).run P W0 = .ok vs W1 ∧ os.about P W0 A.eval = none) ∧ Upto F n P Q ops (M + 1) A W1)) : Upto F n P Q ops 0 c W0 := by
  have ok := sok2_of hok
  have hlen := ok.len
  have hl : (ops.take M).length = M := by simp; omega
  obtain ⟨act, val, z, st, ⟨vs, hvs, q1, q2⟩, hk⟩ := path_of_reads2 (ops.take M) ops 0 c h (fun j hj => by
    have : j < M := by rw [hl] at hj; exact hj
    rw [List.getElem?_take_of_lt this])
  rw [hl] at st hk q1 q2
  intro fuel listed hsz hls hle
  let t : Path ops 0 c M := ⟨act, val, z, fun j o hj ho => (st j o hj (by rw [Nat.zero_add] at ho; exact ho)).1⟩
  have hno : ∀ j, j < ops.length → listed.getD j false = false := fun j hj => by
    cases hb : listed.getD j false with
    | false => rfl
    | true => have := (hls j hj).1 hb; omega
  have := any_of_path2 (F := F) (n := n) (Q := Q) (vs := vs) t ok (by rw [Nat.zero_add]; exact hos) hsd hsg hsp hvs (fun j o hj ho => ?_) ⟨q1, q2⟩ (by rw [Nat.zero_add]; exact hk) fuel listed c hsz (fun j hj => by omega) (fun j h1 h2 => hno j h2) ?_ ⟨rfl, rfl, fun j o d hj ho _ hlj => ?_, fun d _ => rfl⟩ (fun j o hj ho hlj => ?_)
  · rwa [if_neg (by rw [hno _ (by omega)]; simp)] at this
  · rw [Nat.zero_add] at ho ⊢
    obtain ⟨_, a1, a2⟩ := st j o hj ho
    refine ⟨a1, fun hnw => ?_⟩
    rw [Nat.zero_add] at a2
    rcases a2 with a2 | a2
    · obtain ⟨e, he, hb, hon⟩ := edge_of a2
      exact absurd ⟨e, he, hb, hon⟩ hnw
    · exact a2
  · have := lack_le listed 0 (M + 1); omega
  · rw [hno _ (by omega)] at hlj; cases hlj
  · rw [hno _ (by omega)] at hlj; cases hlj
end
end Go.Proofs.Ytmefgejggpimeaa.V
