/-
  A region that draws its order, whose operations but for the last one only read, and whose last one comes behind all of them: one walk, in the order of the text, in a round too.
-/
import Derived.OrdersIn
import Derived.OwnWalkIn
import Derived.TacticsIn
namespace Go.Proofs.YtadhlnlcdljamaaGreatDoor.V
set_option maxRecDepth 20000
open Go

/-- The operations one behind the other, none of which changes the world W. -/
def Reads (P : Program) (W : World) : List Oper → Act → (Act → Prop) → Prop
  | [], a, K => K a
  | o :: r, a, K => ∃ v, ((execOp a.eval o).run P W = .ok (.value v) W ∧ o.about P W a.eval = none) ∧ Reads P W r (a.put o.dst v) K

theorem Reads.step {P : Program} {W : World} {o : Oper} {r : List Oper} {a : Act} {K : Act → Prop} {v : Value} (h1 : (execOp a.eval o).run P W = .ok (.value v) W) (h2 : o.about P W a.eval = none) (h3 : Reads P W r (a.put o.dst v) K) : Reads P W (o :: r) a K :=
  ⟨v, ⟨h1, h2⟩, h3⟩
theorem Reads.nil {P : Program} {W : World} {a : Act} {K : Act → Prop} (h : K a) : Reads P W [] a K := h

def plainOp : Op → Bool
  | .defer _ => false
  | .select _ _ => false
  | _ => true
def hasEdge (o : Oper) (i : Nat) : Bool := o.after.toList.any fun e => Region.binds .any e && e.on == i
/-- What is asked of the region's make: closed, by the kernel. -/
def readsOk (ops : List Oper) (m : Nat) : Bool :=
  ops.length == m + 1 && ops.all (fun o => o.guard.isNone && plainOp o.op) &&
  (List.range (m + 1)).all (fun j => (ops[j]?.map fun o => o.after.toList.all fun e => decide (e.on < j)).getD false) &&
  (List.range m).all (fun j => (ops[j]?.bind (·.dst)).isSome &&
    (List.range (m + 1)).all fun i => i == j || (ops[i]?.bind (·.dst)) != (ops[j]?.bind (·.dst))) &&
  (List.range m).all (fun j => ((ops[m]?).map fun o => hasEdge o j).getD false) &&
  (List.range m).all (fun j => (List.range m).all fun i =>
    match ops[i]?, ops[j]? with
    | some oi, some oj => match oi.dst with
      | some d => !(oj.op.operands.toList.any fun x => match x with | .tmp t => t == d | _ => false) || (decide (i < j) && hasEdge oj i)
      | none => true
    | _, _ => false)

section
variable {P : Program} {W : World}

/-- What the acts on the way are: the values, and where they have been put. -/
structure Trace (P : Program) (W : World) (ops : List Oper) (a : Act) (m : Nat) where
  act : Nat → Act
  val : Nat → Value
  zero : act 0 = a
  step : ∀ j o, j < m → ops[j]? = some o → act (j + 1) = (act j).put o.dst (val j) ∧ (execOp (act j).eval o).run P W = .ok (.value (val j)) W ∧ o.about P W (act j).eval = none

theorem trace_of_reads {K : Act → Prop} : ∀ (l ops : List Oper) (a : Act), Reads P W l a K → (∀ j, j < l.length → ops[j]? = l[j]?) → ∃ t : Trace P W ops a l.length, K (t.act l.length)
  | [], ops, a, h, _ => ⟨⟨fun _ => a, fun _ => undef, rfl, fun j o hj => absurd hj (by simp)⟩, h⟩
  | o :: r, ops, a, ⟨v, ⟨h1, h2⟩, h3⟩, he => by
    obtain ⟨t, hk⟩ := trace_of_reads r (ops.drop 1) (a.put o.dst v) h3 (fun j hj => by
      have := he (j + 1) (by simp; omega)
      simpa [Nat.add_comm] using this)
    refine ⟨⟨fun j => match j with | 0 => a | j + 1 => t.act j, fun j => match j with | 0 => v | j + 1 => t.val j, rfl, ?_⟩, by simpa using hk⟩
    intro j o' hj ho'
    cases j with
    | zero =>
      have := he 0 (by simp)
      rw [ho'] at this
      simp at this
      subst this
      exact ⟨t.zero, h1, h2⟩
    | succ j => exact t.step j o' (by simpa using hj) (by simpa [Nat.add_comm] using ho')

theorem put_getD_ne (a : Act) (d t : Nat) (v : Value) (h : d ≠ t) : (a.put (some d) v).tmps.getD t undef = a.tmps.getD t undef := by
  simp [Act.put, Array.getElem?_setIfInBounds_ne h]
theorem put_getD_same (a c : Act) (d : Nat) (v : Value) (h : a.tmps.size = c.tmps.size) : (a.put (some d) v).tmps.getD d undef = (c.put (some d) v).tmps.getD d undef := by
  simp [Act.put, h]
theorem put_size (a : Act) (d : Option Tmp) (v : Value) : (a.put d v).tmps.size = a.tmps.size := by cases d <;> simp [Act.put]
theorem put_defs (a : Act) (d : Option Tmp) (v : Value) : (a.put d v).defers = a.defers := by cases d <;> simp [Act.put]

def left (listed : Array Bool) : Nat → Nat
  | 0 => 0
  | k + 1 => left listed k + if listed.getD k false = true then 0 else 1
theorem left_far (listed : Array Bool) (i : Nat) : ∀ k, k ≤ i → left (listed.setIfInBounds i true) k = left listed k
  | 0, _ => rfl
  | k + 1, h => by rw [left, left, left_far listed i k (by omega), getD_set_ne false (by omega)]
theorem left_set (listed : Array Bool) (i : Nat) (hi : i < listed.size) (hf : listed.getD i false = false) : ∀ k, i < k → left (listed.setIfInBounds i true) k + 1 = left listed k
  | 0, h => by omega
  | k + 1, h => by
    rw [left, left]
    by_cases e : i = k
    · subst e
      rw [left_far listed i i (by omega), hf]
      have : (listed.setIfInBounds i true).getD i false = true := by simp [hi]
      rw [this]; simp
    · rw [getD_set_ne false e]
      have := left_set listed i hi hf k (by omega)
      omega
theorem left_zero (listed : Array Bool) : ∀ k, left listed k = 0 → ∀ j, j < k → listed.getD j false = true
  | 0, _, j, h => by omega
  | k + 1, h, j, hj => by
    rw [left] at h
    by_cases e : j = k
    · subst e
      by_cases hb : listed.getD j false = true
      · exact hb
      · rw [if_neg hb] at h; omega
    · exact left_zero listed k (by omega) j (by omega)
theorem left_le (listed : Array Bool) : ∀ k, left listed k ≤ k
  | 0 => Nat.le_refl _
  | k + 1 => by rw [left]; have := left_le listed k; split <;> omega

structure Ok (ops : List Oper) (m : Nat) : Prop where
  len : ops.length = m + 1
  bare : ∀ (j : Nat) (o : Oper), ops[j]? = some o → o.guard = none ∧ plainOp o.op = true
  back : ∀ (j : Nat) (o : Oper), j < m + 1 → ops[j]? = some o → ∀ e ∈ o.after, e.on < j
  dsts : ∀ (j : Nat) (o : Oper), j < m → ops[j]? = some o → ∃ d, o.dst = some d
  apart : ∀ (i j : Nat) (oi oj : Oper), i < m → j < m → ops[i]? = some oi → ops[j]? = some oj → oi.dst = oj.dst → i = j
  last : ∀ (j : Nat) (o : Oper), j < m → ops[m]? = some o → ∃ e ∈ o.after, Region.binds .any e = true ∧ e.on = j
  data : ∀ (i j : Nat) (oi oj : Oper) (d : Nat), i < m → j < m → ops[i]? = some oi → ops[j]? = some oj → oi.dst = some d → Operand.tmp d ∈ oj.op.operands → i < j ∧ ∃ e ∈ oj.after, Region.binds .any e = true ∧ e.on = i

theorem edge_of {o : Oper} {i : Nat} (h : hasEdge o i = true) : ∃ e ∈ o.after, Region.binds .any e = true ∧ e.on = i := by
  unfold hasEdge at h
  rw [List.any_eq_true] at h
  obtain ⟨e, he, h⟩ := h
  simp only [Bool.and_eq_true, beq_iff_eq] at h
  exact ⟨e, by simpa using he, h.1, h.2⟩

theorem ok_of {ops : List Oper} {m : Nat} (h : readsOk ops m = true) : Ok ops m := by
  unfold readsOk at h
  simp only [Bool.and_eq_true, List.all_eq_true, List.mem_range, beq_iff_eq] at h
  obtain ⟨⟨⟨⟨⟨h1, h2⟩, h3⟩, h4⟩, h5⟩, h6⟩ := h
  refine ⟨h1, fun j o ho => ?_, fun j o hj ho e he => ?_, fun j o hj ho => ?_, fun i j oi oj hi hj hoi hoj he => ?_, fun j o hj ho => ?_, fun i j oi oj d hi hj hoi hoj hd hmem => ?_⟩
  · have := h2 o (List.mem_of_getElem? ho)
    exact ⟨by simpa using this.1, this.2⟩
  · have := h3 j hj
    rw [ho] at this
    simp only [Option.map_some, Option.getD_some, List.all_eq_true, decide_eq_true_eq] at this
    exact this e (by simpa using he)
  · have := (h4 j hj).1
    rw [ho] at this
    simpa [Option.isSome_iff_exists] using this
  · have := (h4 j hj).2 i (by omega)
    rw [hoi, hoj] at this
    simp [he] at this
    exact this
  · have := h5 j hj
    rw [ho] at this
    exact edge_of (by simpa using this)
  · have := h6 j hj i hi
    rw [hoi, hoj] at this
    simp only [hd] at this
    have hy : (oj.op.operands.toList.any fun x => match x with | .tmp t => t == d | _ => false) = true := by
      rw [List.any_eq_true]
      exact ⟨.tmp d, by simpa using hmem, by simp⟩
    rw [hy] at this
    simp at this
    exact ⟨this.1, edge_of this.2⟩

section
variable {ops : List Oper} {a : Act} {m : Nat} (t : Trace P W ops a m)
theorem Trace.facts (ok : Ok ops m) : ∀ k, k ≤ m → (t.act k).defers = a.defers ∧ (t.act k).tmps.size = a.tmps.size ∧
    (∀ d, (∀ j o, j < k → ops[j]? = some o → o.dst ≠ some d) → (t.act k).tmps.getD d undef = a.tmps.getD d undef)
  | 0, _ => by rw [t.zero]; exact ⟨rfl, rfl, fun _ _ => rfl⟩
  | k + 1, h => by
    obtain ⟨h1, h2, h3⟩ := Trace.facts ok k (by omega)
    obtain ⟨o, ho⟩ : ∃ o, ops[k]? = some o := by
      have := ok.len
      exact ⟨ops[k]'(by omega), List.getElem?_eq_getElem (by omega)⟩
    obtain ⟨e, _, _⟩ := t.step k o (by omega) ho
    rw [e]
    refine ⟨by rw [put_defs, h1], by rw [put_size, h2], fun d hd => ?_⟩
    obtain ⟨d', hd'⟩ := ok.dsts k o (by omega) ho
    rw [hd', put_getD_ne _ _ _ _ (fun e => hd k o (by omega) ho (by rw [hd', e]))]
    exact h3 d (fun j o hj ho => hd j o (by omega) ho)
theorem Trace.later (ok : Ok ops m) {j : Nat} {o : Oper} {d : Nat} (hj : j < m) (ho : ops[j]? = some o) (hd : o.dst = some d) : ∀ k, j < k → k ≤ m → (t.act k).tmps.getD d undef = (t.act (j + 1)).tmps.getD d undef
  | 0, h, _ => by omega
  | k + 1, h, hk => by
    by_cases e : j = k
    · rw [e]
    obtain ⟨o', ho'⟩ : ∃ o, ops[k]? = some o := by
      have := ok.len
      exact ⟨ops[k]'(by omega), List.getElem?_eq_getElem (by omega)⟩
    obtain ⟨e', _, _⟩ := t.step k o' (by omega) ho'
    obtain ⟨d', hd'⟩ := ok.dsts k o' (by omega) ho'
    rw [e', hd', put_getD_ne _ _ _ _ (fun e2 => e (ok.apart j k o o' hj (by omega) ho ho' (by rw [hd, hd', e2]))), Trace.later ok hj ho hd k (by omega) (by omega)]

/-- The act, when those in 'listed' have come up. -/
def Inv (listed : Array Bool) (c : Act) : Prop :=
  c.defers = a.defers ∧ c.tmps.size = a.tmps.size ∧
  (∀ (j : Nat) (o : Oper) (d : Nat), j < m → ops[j]? = some o → o.dst = some d → listed.getD j false = true → c.tmps.getD d undef = (t.act m).tmps.getD d undef) ∧
  (∀ d : Nat, (∀ (j : Nat) (o : Oper), j < m → ops[j]? = some o → o.dst = some d → listed.getD j false = false) → c.tmps.getD d undef = a.tmps.getD d undef)

theorem inv_step (ok : Ok ops m) {listed : Array Bool} {c : Act} (hi : Inv t listed c) {j : Nat} {o : Oper} (hj : j < m) (ho : ops[j]? = some o) (hsz : listed.size = m + 1) (hun : listed.getD j false = false) : Inv t (listed.setIfInBounds j true) (c.put o.dst (t.val j)) := by
  obtain ⟨h1, h2, h3, h4⟩ := hi
  obtain ⟨d, hd⟩ := ok.dsts j o hj ho
  obtain ⟨e1, _, _⟩ := t.step j o hj ho
  obtain ⟨f1, f2, _⟩ := t.facts ok j (by omega)
  refine ⟨by rw [put_defs, h1], by rw [put_size, h2], fun i oi d' hi' hoi hd' hl => ?_, fun d' hall => ?_⟩
  · by_cases e : i = j
    · subst e
      rw [ho] at hoi; cases hoi
      rw [hd] at hd'; cases hd'
      rw [hd, t.later ok hj ho hd m (by omega) (by omega), e1, hd]
      exact put_getD_same _ _ _ _ (by rw [h2, f2])
    · rw [hd, put_getD_ne _ _ _ _ (fun e2 => e (ok.apart i j oi o hi' hj hoi ho (by rw [hd, hd', e2])))]
      exact h3 i oi d' hi' hoi hd' (by rw [getD_set_ne false (Ne.symm e)] at hl; exact hl)
  · have hne : d ≠ d' := fun e2 => by
      have := hall j o hj ho (by rw [hd, e2])
      simp [hsz] at this
      omega
    rw [hd, put_getD_ne _ _ _ _ hne]
    refine h4 d' (fun i oi hi' hoi hd' => ?_)
    have := hall i oi hi' hoi hd'
    by_cases e : j = i
    · subst e; exact hun
    · rwa [getD_set_ne false e] at this

theorem inv_eval (ok : Ok ops m) {listed : Array Bool} {c : Act} (hi : Inv t listed c) {j : Nat} {o : Oper} (hj : j < m) (ho : ops[j]? = some o) (hr : ∀ e ∈ o.after, Region.binds .any e = true → listed.getD e.on false = true) :
    ∀ x ∈ o.op.operands, c.eval x = (t.act j).eval x := by
  obtain ⟨h1, h2, h3, h4⟩ := hi
  intro x hx
  cases x with
  | tmp d =>
    show c.tmps.getD d undef = (t.act j).tmps.getD d undef
    obtain ⟨_, _, f3⟩ := t.facts ok j (by omega)
    by_cases hex : ∃ (i : Nat) (oi : Oper), i < m ∧ ops[i]? = some oi ∧ oi.dst = some d
    · obtain ⟨i, oi, him, hoi, hdi⟩ := hex
      obtain ⟨hij, e, he, hb, hon⟩ := ok.data i j oi o d him hj hoi ho hdi hx
      have hl := hr e he hb
      rw [hon] at hl
      rw [h3 i oi d him hoi hdi hl, t.later ok him hoi hdi m (by omega) (by omega), t.later ok him hoi hdi j hij (by omega)]
    · rw [h4 d (fun i oi him hoi hdi => absurd ⟨i, oi, him, hoi, hdi⟩ hex), f3 d (fun i oi hij hoi hdi => hex ⟨i, oi, by omega, hoi, hdi⟩)]
  | _ => rfl

theorem inv_all (ok : Ok ops m) {listed : Array Bool} {c : Act} (hi : Inv t listed c) (hall : ∀ j, j < m → listed.getD j false = true) : c = t.act m := by
  obtain ⟨h1, h2, h3, h4⟩ := hi
  obtain ⟨f1, f2, f3⟩ := t.facts ok m (by omega)
  have key : ∀ d, c.tmps.getD d undef = (t.act m).tmps.getD d undef := fun d => by
    by_cases hex : ∃ (i : Nat) (oi : Oper), i < m ∧ ops[i]? = some oi ∧ oi.dst = some d
    · obtain ⟨i, oi, him, hoi, hdi⟩ := hex
      exact h3 i oi d him hoi hdi (hall i him)
    · rw [h4 d (fun i oi him hoi hdi => absurd ⟨i, oi, him, hoi, hdi⟩ hex), f3 d (fun i oi hij hoi hdi => hex ⟨i, oi, by omega, hoi, hdi⟩)]
  have ht : c.tmps = (t.act m).tmps := by
    apply Array.ext
    · rw [h2, f2]
    · intro i hi1 hi2
      have := key i
      simpa [hi1, hi2] using this
  cases c
  cases hA : t.act m
  simp only [hA] at *
  rw [h1, ← f1, ht]

theorem any_of_trace (ok : Ok ops m) {F : Fence} {n : Nat} {Q : Exit → Act → World → Prop} {st : Oper} (hst : ops[m]? = some st) (hend : st.wpIn F n P (t.act m) W (Q .normal) Q) :
    ∀ (fuel : Nat) (listed : Array Bool) (c : Act), listed.size = m + 1 → listed.getD m false = false → left listed m + 1 ≤ fuel → Inv t listed c → wpAnyIn F n P .any ops.toArray Q fuel listed c W := by
  intro fuel
  induction fuel with
  | zero => intro listed c _ _ h; omega
  | succ fuel ih =>
    intro listed c hsz hlm hle hinv
    have hgt : ∀ j, j < m + 1 → (listed.getD j true = false ↔ listed.getD j false = false) := fun j hj => by simp [hsz, hj]
    refine ⟨fun hre => ?_, fun i hi => ?_⟩
    · exfalso
      -- the least one that has not come is ready
      have hmin : ∀ k, k ≤ m → (∀ j, j < k → listed.getD j false = true) ∨ ∃ j, j < k ∧ listed.getD j false = false ∧ ∀ i, i < j → listed.getD i false = true := by
        intro k
        induction k with
        | zero => intro _; exact .inl (fun j hj => by omega)
        | succ k ihk =>
          intro hk
          rcases ihk (by omega) with h | ⟨j, hj, h⟩
          · by_cases hb : listed.getD k false = true
            · exact .inl (fun j hj => by by_cases e : j = k; (rw [e]; exact hb); exact h j (by omega))
            · exact .inr ⟨k, by omega, by simpa using hb, h⟩
          · exact .inr ⟨j, by omega, h⟩
      obtain ⟨j, hj, hf, hb⟩ : ∃ j, j < m + 1 ∧ listed.getD j false = false ∧ ∀ i, i < j → listed.getD i false = true := by
        rcases hmin m (Nat.le_refl _) with h | ⟨j, hj, h1, h2⟩
        · exact ⟨m, by omega, hlm, h⟩
        · exact ⟨j, by omega, h1, h2⟩
      have hlen := ok.len
      have : j ∈ Region.ready .any ops.toArray listed := by
        rw [mem_ready]
        exact ⟨(hgt j hj).2 hf, ops[j]'(by omega), by simp [hlen, hj], fun e he _ => hb _ (ok.back j _ hj (List.getElem?_eq_getElem (by omega)) e he)⟩
      rw [hre] at this
      cases this
    · obtain ⟨hun, o, ho, hr⟩ := mem_ready.1 hi
      have ho' : ops[i]? = some o := by simpa using ho
      have hil : i < m + 1 := by
        have := (List.getElem?_eq_some_iff.1 ho').1
        rw [ok.len] at this; exact this
      have hun' := (hgt i hil).1 hun
      obtain ⟨hg, hp⟩ := ok.bare i o ho'
      have hnd : ∀ c, o.op ≠ .defer c := fun c e => by rw [e] at hp; simp [plainOp] at hp
      have hns : ∀ cs b, o.op ≠ .select cs b := fun cs b e => by rw [e] at hp; simp [plainOp] at hp
      unfold wpOpIn
      simp only [ho]
      have hw : Region.wanted o (yielded ops.toArray c.tmps) = true := by simp [Region.wanted, hg]
      rw [if_pos hw]
      by_cases him : i < m
      · have hev := inv_eval t ok hinv him ho' hr
        obtain ⟨_, e2, e3⟩ := t.step i o him ho'
        refine ⟨fun f hf => ?_, ?_⟩
        · rw [about_congr o W hev, e3] at hf; cases hf
        · rw [Oper.semAt_plain F _ _ hnd, execOp_congr o hns hev, e2]
          exact ih _ _ (by simp [hsz]) (by rw [getD_set_ne false (by omega)]; exact hlm) (by have := left_set listed i (by omega) hun' m him; omega) (inv_step t ok hinv him ho' hsz hun')
      · obtain rfl : i = m := by omega
        rw [hst] at ho'; cases ho'
        have hall : ∀ j, j < i → listed.getD j false = true := fun j hj => by
          obtain ⟨e, he, hb, hon⟩ := ok.last j st hj hst
          have := hr e he hb
          rwa [hon] at this
        rw [inv_all t ok hinv hall]
        refine Oper.wpIn_mono (fun a' w' hq => ?_) hend
        have hdone : Region.ready .any ops.toArray (listed.setIfInBounds i true) = [] := by
          rw [List.eq_nil_iff_forall_not_mem]
          intro k hk
          obtain ⟨h1, o', ho', _⟩ := mem_ready.1 hk
          have hkl : k < i + 1 := by
            have := (Array.getElem?_eq_some_iff.1 ho').1
            simp [ok.len] at this; exact this
          by_cases e : i = k
          · subst e; simp [hsz] at h1
          · rw [getD_set_ne true e] at h1
            have h2 := hall k (by omega)
            simp [hsz, hkl] at h1 h2
            rw [h1] at h2; cases h2
        cases fuel with
        | zero => exact ⟨hdone, hq⟩
        | succ f => exact ⟨fun _ => hq, fun k hk => by rw [hdone] at hk; cases hk⟩
end

/-- **The region's law: also in a round.** -/
theorem region_reads {F : Fence} {n : Nat} {ops : List Oper} {Q : Exit → Act → World → Prop} {id : Nat} {a : Act} {w : World} {st : Oper} (m : Nat) (hm : P.follows .mixedOrders = true) (hok : readsOk ops m = true) (hst : ops[m]? = some st)
    (h : Reads P w.drew (ops.take m) a (fun A => wpListIn F n P ops.toArray Q [st] A w.drew)) : (Code.region id ops.toArray true).wpIn F n P Q a w := by
  have ok := ok_of hok
  have hl : (ops.take m).length = m := by simp [ok.len]
  have ht := trace_of_reads (ops.take m) ops a h (fun j hj => by
    have : j < m := by simp [ok.len] at hj; omega
    rw [List.getElem?_take_of_lt this])
  rw [hl] at ht
  obtain ⟨t, hk⟩ := ht
  have hk : st.wpIn F n P (t.act m) w.drew (Q .normal) Q := by
    unfold wpListIn at hk
    rw [if_pos (by simp [Region.wanted, (ok.bare m st hst).1])] at hk
    exact hk
  refine wpIn_region_any hm ?_
  have hsz : ops.toArray.size = m + 1 := by simp [ok.len]
  rw [hsz]
  refine any_of_trace t ok hst hk (m + 1) _ a (by simp) (by simp) (by have := left_le (Array.replicate (m + 1) false) m; omega) ⟨rfl, rfl, fun j o d hj _ _ hl => ?_, fun d _ => rfl⟩
  simp [show j < m + 1 by omega] at hl
end
end Go.Proofs.YtadhlnlcdljamaaGreatDoor.V
