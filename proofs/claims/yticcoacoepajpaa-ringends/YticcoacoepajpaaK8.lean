/-
  A region that draws its order, gone through in stages: readers among themselves in any order, then one operation that all others wait for, and so on.
-/
import Derived.Test.YticcoacoepajpaaK7
namespace Go.Proofs.Yticcoacoepajpaa.V
open Go

section
variable {F : Fence} {n : Nat} {P : Program} {Q : Exit → Act → World → Prop} {ops : List Oper}

/-- Just the first i operations have come. -/
def Upto (F : Fence) (n : Nat) (P : Program) (Q : Exit → Act → World → Prop) (ops : List Oper) (i : Nat) (c : Act) (W : World) : Prop :=
  ∀ (fuel : Nat) (listed : Array Bool), listed.size = ops.length → (∀ j, j < ops.length → (listed.getD j false = true ↔ j < i)) → ops.length - i ≤ fuel → wpAnyIn F n P .any ops.toArray Q fuel listed c W

def backOk (ops : List Oper) : Bool := (List.range ops.length).all (fun j => (ops[j]?.map fun o => o.after.toList.all fun e => !Region.binds .any e || decide (e.on < j)).getD false)
/-- Whatever comes behind i waits for something from i on. -/
def waitOk (ops : List Oper) (i : Nat) : Bool := (List.range ops.length).all fun k => decide (k ≤ i) || (List.range k).any fun j => decide (i ≤ j) && ((ops[k]?.map fun o => hasEdge o j).getD false)

theorem back_of (h : backOk ops = true) : ∀ (j : Nat) (o : Oper), ops[j]? = some o → ∀ e ∈ o.after, Region.binds .any e = true → e.on < j := by
  intro j o ho e he hbd
  unfold backOk at h
  simp only [List.all_eq_true, List.mem_range] at h
  have := h j (List.getElem?_eq_some_iff.1 ho).1
  rw [ho] at this
  simp only [Option.map_some, Option.getD_some, List.all_eq_true, Bool.or_eq_true, Bool.not_eq_true', decide_eq_true_eq] at this
  exact (this e (by simpa using he)).resolve_left (by rw [hbd]; simp)
theorem wait_of {i : Nat} (h : waitOk ops i = true) : ∀ (k : Nat) (o : Oper), i < k → ops[k]? = some o → ∃ j, i ≤ j ∧ j < k ∧ ∃ e ∈ o.after, Region.binds .any e = true ∧ e.on = j := by
  intro k o hk ho
  unfold waitOk at h
  simp only [List.all_eq_true, List.mem_range] at h
  have := h k (List.getElem?_eq_some_iff.1 ho).1
  simp only [Bool.or_eq_true, decide_eq_true_eq, List.any_eq_true, List.mem_range, Bool.and_eq_true] at this
  rcases this with h | ⟨j, hj, h1, h2⟩
  · omega
  · rw [ho] at h2
    exact ⟨j, h1, hj, edge_of (by simpa using h2)⟩

theorem Upto.done {c : Act} {W : World} (i : Nat) (hi : ops.length ≤ i) (h : Q .normal c W) : Upto F n P Q ops i c W := by
  intro fuel listed hsz hl _
  have hre : Region.ready .any ops.toArray listed = [] := by
    rw [List.eq_nil_iff_forall_not_mem]
    intro k hk
    obtain ⟨h1, o', ho', _⟩ := mem_ready.1 hk
    have hkl : k < ops.length := by
      have := (Array.getElem?_eq_some_iff.1 ho').1
      simpa using this
    have := (hl k hkl).2 (by omega)
    simp [hsz, hkl] at h1 this
    rw [h1] at this; cases this
  cases fuel with
  | zero => exact ⟨hre, h⟩
  | succ f => exact ⟨fun _ => h, fun k hk => by rw [hre] at hk; cases hk⟩

theorem Upto.one {c : Act} {W : World} {o : Oper} (i : Nat) (hb : backOk ops = true) (hw : waitOk ops i = true) (ho : ops[i]? = some o) (hg : o.guard = none) (h : o.wpIn F n P c W (fun c' W' => Upto F n P Q ops (i + 1) c' W') Q) : Upto F n P Q ops i c W := by
  intro fuel listed hsz hl hle
  have hil := (List.getElem?_eq_some_iff.1 ho).1
  have hgt : ∀ j, j < ops.length → (listed.getD j true = false ↔ ¬ j < i) := fun j hj => by
    have := hl j hj
    simp [hsz, hj] at this ⊢
    cases hb : listed[j] <;> simp_all <;> omega
  obtain ⟨fuel, rfl⟩ : ∃ f, fuel = f + 1 := ⟨fuel - 1, by omega⟩
  refine ⟨fun hre => ?_, fun k hk => ?_⟩
  · exfalso
    have : i ∈ Region.ready .any ops.toArray listed := by
      rw [mem_ready]
      refine ⟨(hgt i hil).2 (by omega), o, by simpa using ho, fun e he hbd => ?_⟩
      have := back_of hb i o ho e he hbd
      exact (hl e.on (by omega)).2 this
    rw [hre] at this; cases this
  · obtain ⟨hun, ok, hok, hr⟩ := mem_ready.1 hk
    have hok' : ops[k]? = some ok := by simpa using hok
    have hkl := (List.getElem?_eq_some_iff.1 hok').1
    have hki := (hgt k hkl).1 hun
    obtain rfl : k = i := by
      by_cases e : k = i
      · exact e
      · exfalso
        obtain ⟨j, h1, h2, e', he', hb', hon⟩ := wait_of hw k ok (by omega) hok'
        have := hr e' he' hb'
        rw [hon] at this
        have := (hl j (by omega)).1 this
        omega
    rw [ho] at hok'; cases hok'
    unfold wpOpIn
    simp only [hok]
    rw [if_pos (by simp [Region.wanted, hg])]
    refine Oper.wpIn_mono (fun a' w' hq => ?_) h
    refine hq fuel _ (by simp [hsz]) (fun j hj => ?_) (by omega)
    by_cases e : k = j
    · subst e; simp [hsz, hj]
    · rw [getD_set_ne false e, hl j hj]; omega

/-- M readers from i on. -/
def stageOk (ops : List Oper) (i M : Nat) : Bool :=
  decide (i + M < ops.length) && backOk ops && waitOk ops (i + M) &&
  (List.range M).all (fun j => (ops[i + j]?.map fun o => o.guard.isNone && plainOp o.op).getD false) &&
  (List.range M).all (fun j => (ops[i + j]?.bind (·.dst)).isSome && (List.range M).all fun k => k == j || (ops[i + k]?.bind (·.dst)) != (ops[i + j]?.bind (·.dst))) &&
  (List.range M).all (fun j => (List.range (M + 1)).any fun k => decide (j < k) && ((ops[i + k]?.map fun o => hasEdge o (i + j)).getD false)) &&
  (List.range M).all (fun j => (List.range M).all fun k =>
    match ops[i + k]?, ops[i + j]? with
    | some ok, some oj => match ok.dst with
      | some d => !(oj.op.operands.toList.any fun x => match x with | .tmp t => t == d | _ => false) || (decide (k < j) && hasEdge oj (i + k))
      | none => true
    | _, _ => false)

structure SOk (ops : List Oper) (i M : Nat) : Prop where
  len : i + M < ops.length
  back : backOk ops = true
  wait : waitOk ops (i + M) = true
  bare : ∀ (j : Nat) (o : Oper), j < M → ops[i + j]? = some o → o.guard = none ∧ plainOp o.op = true
  dsts : ∀ (j : Nat) (o : Oper), j < M → ops[i + j]? = some o → ∃ d, o.dst = some d
  apart : ∀ (k j : Nat) (ok oj : Oper), k < M → j < M → ops[i + k]? = some ok → ops[i + j]? = some oj → ok.dst = oj.dst → k = j
  succ : ∀ (j : Nat), j < M → ∃ k o, j < k ∧ k ≤ M ∧ ops[i + k]? = some o ∧ ∃ e ∈ o.after, Region.binds .any e = true ∧ e.on = i + j
  data : ∀ (k j : Nat) (ok oj : Oper) (d : Nat), k < M → j < M → ops[i + k]? = some ok → ops[i + j]? = some oj → ok.dst = some d → Operand.tmp d ∈ oj.op.operands → k < j ∧ ∃ e ∈ oj.after, Region.binds .any e = true ∧ e.on = i + k

theorem sok_of {i M : Nat} (h : stageOk ops i M = true) : SOk ops i M := by
  unfold stageOk at h
  simp only [Bool.and_eq_true, List.all_eq_true, List.mem_range, decide_eq_true_eq] at h
  obtain ⟨⟨⟨⟨⟨⟨h1, h2⟩, h3⟩, h4⟩, h5⟩, h6⟩, h7⟩ := h
  refine ⟨h1, h2, h3, fun j o hj ho => ?_, fun j o hj ho => ?_, fun k j ok oj hk hj hok hoj he => ?_, fun j hj => ?_, fun k j ok oj d hk hj hok hoj hd hmem => ?_⟩
  · have := h4 j hj
    rw [ho] at this
    simpa using this
  · have := (h5 j hj).1
    rw [ho] at this
    simpa [Option.isSome_iff_exists] using this
  · have := (h5 j hj).2 k hk
    rw [hok, hoj] at this
    simp [he] at this
    exact this
  · have := h6 j hj
    rw [List.any_eq_true] at this
    obtain ⟨k, hk, h⟩ := this
    simp only [List.mem_range, Bool.and_eq_true, decide_eq_true_eq] at hk h
    cases ho : ops[i + k]? with
    | none => rw [ho] at h; simp at h
    | some o =>
      rw [ho] at h
      exact ⟨k, o, h.1, by omega, ho, edge_of (by simpa using h.2)⟩
  · have := h7 j hj k hk
    rw [hok, hoj] at this
    simp only [hd] at this
    have hy : (oj.op.operands.toList.any fun x => match x with | .tmp t => t == d | _ => false) = true := by
      rw [List.any_eq_true]
      exact ⟨.tmp d, by simpa using hmem, by simp⟩
    rw [hy] at this
    simp at this
    exact ⟨this.1, edge_of this.2⟩

/-- The acts on the way. -/
structure Path (ops : List Oper) (i : Nat) (a : Act) (M : Nat) where
  act : Nat → Act
  val : Nat → Value
  zero : act 0 = a
  step : ∀ j o, j < M → ops[i + j]? = some o → act (j + 1) = (act j).put o.dst (val j)

variable {i M : Nat} {a : Act} (t : Path ops i a M)
theorem Path.facts (ok : SOk ops i M) : ∀ k, k ≤ M → (t.act k).defers = a.defers ∧ (t.act k).tmps.size = a.tmps.size ∧
    (∀ d, (∀ j o, j < k → ops[i + j]? = some o → o.dst ≠ some d) → (t.act k).tmps.getD d undef = a.tmps.getD d undef)
  | 0, _ => by rw [t.zero]; exact ⟨rfl, rfl, fun _ _ => rfl⟩
  | k + 1, h => by
    obtain ⟨h1, h2, h3⟩ := Path.facts ok k (by omega)
    obtain ⟨o, ho⟩ : ∃ o, ops[i + k]? = some o := by
      have := ok.len
      exact ⟨ops[i + k]'(by omega), List.getElem?_eq_getElem (by omega)⟩
    rw [t.step k o (by omega) ho]
    refine ⟨by rw [put_defs, h1], by rw [put_size, h2], fun d hd => ?_⟩
    obtain ⟨d', hd'⟩ := ok.dsts k o (by omega) ho
    rw [hd', put_getD_ne _ _ _ _ (fun e => hd k o (by omega) ho (by rw [hd', e]))]
    exact h3 d (fun j o hj ho => hd j o (by omega) ho)
theorem Path.later (ok : SOk ops i M) {j : Nat} {o : Oper} {d : Nat} (hj : j < M) (ho : ops[i + j]? = some o) (hd : o.dst = some d) : ∀ k, j < k → k ≤ M → (t.act k).tmps.getD d undef = (t.act (j + 1)).tmps.getD d undef
  | 0, h, _ => by omega
  | k + 1, h, hk => by
    by_cases e : j = k
    · rw [e]
    obtain ⟨o', ho'⟩ : ∃ o, ops[i + k]? = some o := by
      have := ok.len
      exact ⟨ops[i + k]'(by omega), List.getElem?_eq_getElem (by omega)⟩
    obtain ⟨d', hd'⟩ := ok.dsts k o' (by omega) ho'
    rw [t.step k o' (by omega) ho', hd', put_getD_ne _ _ _ _ (fun e2 => e (ok.apart j k o o' hj (by omega) ho ho' (by rw [hd, hd', e2]))), Path.later ok hj ho hd k (by omega) (by omega)]

def PInv (listed : Array Bool) (c : Act) : Prop :=
  c.defers = a.defers ∧ c.tmps.size = a.tmps.size ∧
  (∀ (j : Nat) (o : Oper) (d : Nat), j < M → ops[i + j]? = some o → o.dst = some d → listed.getD (i + j) false = true → c.tmps.getD d undef = (t.act M).tmps.getD d undef) ∧
  (∀ d : Nat, (∀ (j : Nat) (o : Oper), j < M → ops[i + j]? = some o → o.dst = some d → listed.getD (i + j) false = false) → c.tmps.getD d undef = a.tmps.getD d undef)

theorem pinv_step (ok : SOk ops i M) {listed : Array Bool} {c : Act} (hi : PInv t listed c) {j : Nat} {o : Oper} (hj : j < M) (ho : ops[i + j]? = some o) (hsz : listed.size = ops.length) (hun : listed.getD (i + j) false = false) : PInv t (listed.setIfInBounds (i + j) true) (c.put o.dst (t.val j)) := by
  obtain ⟨h1, h2, h3, h4⟩ := hi
  obtain ⟨d, hd⟩ := ok.dsts j o hj ho
  have e1 := t.step j o hj ho
  obtain ⟨f1, f2, _⟩ := t.facts ok j (by omega)
  have hlen := ok.len
  refine ⟨by rw [put_defs, h1], by rw [put_size, h2], fun k oi d' hi' hoi hd' hl => ?_, fun d' hall => ?_⟩
  · by_cases e : k = j
    · subst e
      rw [ho] at hoi; cases hoi
      rw [hd] at hd'; cases hd'
      rw [hd, t.later ok hj ho hd M (by omega) (by omega), e1, hd]
      exact put_getD_same _ _ _ _ (by rw [h2, f2])
    · rw [hd, put_getD_ne _ _ _ _ (fun e2 => e (ok.apart k j oi o hi' hj hoi ho (by rw [hd, hd', e2])))]
      exact h3 k oi d' hi' hoi hd' (by rw [getD_set_ne false (by omega)] at hl; exact hl)
  · have hne : d ≠ d' := fun e2 => by
      have := hall j o hj ho (by rw [hd, e2])
      simp [hsz] at this
      omega
    rw [hd, put_getD_ne _ _ _ _ hne]
    refine h4 d' (fun k oi hi' hoi hd' => ?_)
    have := hall k oi hi' hoi hd'
    by_cases e : j = k
    · subst e; exact hun
    · rwa [getD_set_ne false (by omega)] at this

theorem pinv_eval (ok : SOk ops i M) {listed : Array Bool} {c : Act} (hi : PInv t listed c) {j : Nat} {o : Oper} (hj : j < M) (ho : ops[i + j]? = some o) (hr : ∀ e ∈ o.after, Region.binds .any e = true → listed.getD e.on false = true) :
    ∀ x ∈ o.op.operands, c.eval x = (t.act j).eval x := by
  obtain ⟨h1, h2, h3, h4⟩ := hi
  intro x hx
  cases x with
  | tmp d =>
    show c.tmps.getD d undef = (t.act j).tmps.getD d undef
    obtain ⟨_, _, f3⟩ := t.facts ok j (by omega)
    by_cases hex : ∃ (k : Nat) (oi : Oper), k < M ∧ ops[i + k]? = some oi ∧ oi.dst = some d
    · obtain ⟨k, oi, him, hoi, hdi⟩ := hex
      obtain ⟨hij, e, he, hb, hon⟩ := ok.data k j oi o d him hj hoi ho hdi hx
      have hl := hr e he hb
      rw [hon] at hl
      rw [h3 k oi d him hoi hdi hl, t.later ok him hoi hdi M (by omega) (by omega), t.later ok him hoi hdi j hij (by omega)]
    · rw [h4 d (fun k oi him hoi hdi => absurd ⟨k, oi, him, hoi, hdi⟩ hex), f3 d (fun k oi hij hoi hdi => hex ⟨k, oi, by omega, hoi, hdi⟩)]
  | _ => rfl

theorem pinv_all (ok : SOk ops i M) {listed : Array Bool} {c : Act} (hi : PInv t listed c) (hall : ∀ j, j < M → listed.getD (i + j) false = true) : c = t.act M := by
  obtain ⟨h1, h2, h3, h4⟩ := hi
  obtain ⟨f1, f2, f3⟩ := t.facts ok M (by omega)
  have key : ∀ d, c.tmps.getD d undef = (t.act M).tmps.getD d undef := fun d => by
    by_cases hex : ∃ (k : Nat) (oi : Oper), k < M ∧ ops[i + k]? = some oi ∧ oi.dst = some d
    · obtain ⟨k, oi, him, hoi, hdi⟩ := hex
      exact h3 k oi d him hoi hdi (hall k him)
    · rw [h4 d (fun k oi him hoi hdi => absurd ⟨k, oi, him, hoi, hdi⟩ hex), f3 d (fun k oi hij hoi hdi => hex ⟨k, oi, by omega, hoi, hdi⟩)]
  have ht : c.tmps = (t.act M).tmps := by
    apply Array.ext
    · rw [h2, f2]
    · intro i hi1 hi2
      have := key i
      simpa [hi1, hi2] using this
  cases c
  cases hA : t.act M
  simp only [hA] at *
  rw [h1, ← f1, ht]

/-- How many of the stage have not come. -/
def lack (listed : Array Bool) (i : Nat) : Nat → Nat
  | 0 => 0
  | k + 1 => lack listed i k + if listed.getD (i + k) false = true then 0 else 1
theorem lack_far (listed : Array Bool) (i x : Nat) : ∀ k, i + k ≤ x → lack (listed.setIfInBounds x true) i k = lack listed i k
  | 0, _ => rfl
  | k + 1, h => by rw [lack, lack, lack_far listed i x k (by omega), getD_set_ne false (by omega)]
theorem lack_set (listed : Array Bool) (i j : Nat) (hi : i + j < listed.size) (hf : listed.getD (i + j) false = false) : ∀ k, j < k → lack (listed.setIfInBounds (i + j) true) i k + 1 = lack listed i k
  | 0, h => by omega
  | k + 1, h => by
    rw [lack, lack]
    by_cases e : j = k
    · subst e
      rw [lack_far listed i (i + j) j (by omega), hf]
      have : (listed.setIfInBounds (i + j) true).getD (i + j) false = true := by simp [hi]
      rw [this]; simp
    · rw [getD_set_ne false (by omega)]
      have := lack_set listed i j hi hf k (by omega)
      omega
theorem lack_le (listed : Array Bool) (i : Nat) : ∀ k, lack listed i k ≤ k
  | 0 => Nat.le_refl _
  | k + 1 => by rw [lack]; have := lack_le listed i k; split <;> omega

theorem any_of_path {W : World} (ok : SOk ops i M) (h0 : ∀ j o, j < M → ops[i + j]? = some o → (execOp (t.act j).eval o).run P W = .ok (.value (t.val j)) W ∧ o.about P W (t.act j).eval = none) (hend : Upto F n P Q ops (i + M) (t.act M) W) :
    ∀ (fuel : Nat) (listed : Array Bool) (c : Act), listed.size = ops.length → (∀ j, j < i → listed.getD j false = true) → (∀ j, i + M ≤ j → j < ops.length → listed.getD j false = false) → lack listed i M + (ops.length - (i + M)) ≤ fuel → PInv t listed c →
      (∀ j o, j < M → ops[i + j]? = some o → listed.getD (i + j) false = true → ∀ e ∈ o.after, Region.binds .any e = true → listed.getD e.on false = true) → wpAnyIn F n P .any ops.toArray Q fuel listed c W := by
  intro fuel
  have hlen := ok.len
  induction fuel with
  | zero => intro listed c _ _ _ h; omega
  | succ fuel ih =>
    intro listed c hsz hpre htail hle hinv hcl
    have hgt : ∀ j, j < ops.length → (listed.getD j true = false ↔ listed.getD j false = false) := fun j hj => by simp [hsz, hj]
    by_cases hall : ∀ j, j < M → listed.getD (i + j) false = true
    · have hc := pinv_all t ok hinv hall
      subst hc
      refine hend (fuel + 1) listed hsz (fun j hj => ?_) (by omega)
      by_cases h1 : j < i
      · simp [hpre j h1]; omega
      · by_cases h2 : j < i + M
        · have := hall (j - i) (by omega)
          rw [show i + (j - i) = j by omega] at this
          simp [this, h2]
        · rw [htail j (by omega) hj]; simp; omega
    refine ⟨fun hre => ?_, fun k hk => ?_⟩
    · exfalso
      have hmin : ∀ k, k ≤ M → (∀ j, j < k → listed.getD (i + j) false = true) ∨ ∃ j, j < k ∧ listed.getD (i + j) false = false ∧ ∀ x, x < j → listed.getD (i + x) false = true := by
        intro k
        induction k with
        | zero => intro _; exact .inl (fun j hj => by omega)
        | succ k ihk =>
          intro hk
          rcases ihk (by omega) with h | ⟨j, hj, h⟩
          · by_cases hb : listed.getD (i + k) false = true
            · exact .inl (fun j hj => by by_cases e : j = k; (rw [e]; exact hb); exact h j (by omega))
            · exact .inr ⟨k, by omega, by simpa using hb, h⟩
          · exact .inr ⟨j, by omega, h⟩
      rcases hmin M (Nat.le_refl _) with h | ⟨j, hj, hf, hb⟩
      · exact hall h
      have : i + j ∈ Region.ready .any ops.toArray listed := by
        rw [mem_ready]
        refine ⟨(hgt (i + j) (by omega)).2 hf, ops[i + j]'(by omega), by simp, fun e he hbd => ?_⟩
        have hbk := back_of ok.back (i + j) _ (List.getElem?_eq_getElem (by omega)) e he hbd
        by_cases h1 : e.on < i
        · exact hpre _ h1
        · have := hb (e.on - i) (by omega)
          rwa [show i + (e.on - i) = e.on by omega] at this
      rw [hre] at this
      cases this
    · obtain ⟨hun, o, ho, hr⟩ := mem_ready.1 hk
      have ho' : ops[k]? = some o := by simpa using ho
      have hkl := (List.getElem?_eq_some_iff.1 ho').1
      have hun' := (hgt k hkl).1 hun
      have hki : i ≤ k := by
        by_cases h : i ≤ k
        · exact h
        · have := hpre k (by omega)
          rw [this] at hun'; cases hun'
      -- none behind the stage is ready: all of the stage would have come
      have hkM : k < i + M := by
        by_cases hkM : k < i + M
        · exact hkM
        · exfalso
          have hk' : k = i + M := by
            by_cases e : k = i + M
            · exact e
            · exfalso
              obtain ⟨j, h1, h2, e', he', hb', hon⟩ := wait_of ok.wait k o (by omega) ho'
              have := hr e' he' hb'
              rw [hon, htail j h1 (by omega)] at this
              cases this
          subst hk'
          refine hall ?_
          have hdown : ∀ d j, j + d = M → 0 < d → listed.getD (i + j) false = true := by
            intro d
            induction d using Nat.strongRecOn with
            | ind d ihd =>
              intro j hj hd
              obtain ⟨s, os, hjs, hsM, hos, e, he, hb, hon⟩ := ok.succ j (by omega)
              by_cases e1 : s = M
              · subst e1
                rw [ho'] at hos; cases hos
                have := hr e he hb
                rwa [hon] at this
              · have := ihd (M - s) (by omega) s (by omega) (by omega)
                have := hcl s os (by omega) hos this e he hb
                rwa [hon] at this
          exact fun j hj => hdown (M - j) j (by omega) (by omega)
      obtain ⟨j, rfl⟩ : ∃ j, k = i + j := ⟨k - i, by omega⟩
      have hj : j < M := by omega
      obtain ⟨hg, hp⟩ := ok.bare j o hj ho'
      have hnd : ∀ c, o.op ≠ .defer c := fun c e => by rw [e] at hp; simp [plainOp] at hp
      have hns : ∀ cs b, o.op ≠ .select cs b := fun cs b e => by rw [e] at hp; simp [plainOp] at hp
      unfold wpOpIn
      simp only [ho]
      rw [if_pos (by simp [Region.wanted, hg])]
      have hev := pinv_eval t ok hinv hj ho' hr
      obtain ⟨q1, q2⟩ := h0 j o hj ho'
      refine ⟨fun f hf => ?_, ?_⟩
      · rw [about_congr o _ hev, q2] at hf; cases hf
      · rw [Oper.semAt_plain F _ _ hnd, execOp_congr o hns hev, q1]
        refine ih _ _ (by simp [hsz]) (fun x hx => ?_) (fun x h1 h2 => ?_) ?_ (pinv_step t ok hinv hj ho' hsz hun') ?_
        · rw [getD_set_ne false (by omega)]; exact hpre x hx
        · rw [getD_set_ne false (by omega)]; exact htail x h1 h2
        · have := lack_set listed i j (by omega) hun' M hj; omega
        · intro x o' hx hox hlx e he hb
          by_cases e1 : e.on = i + j
          · rw [e1]; simp [hsz, hkl]
          · rw [getD_set_ne false (Ne.symm e1)]
            by_cases e2 : j = x
            · subst e2
              rw [ho'] at hox; cases hox
              exact hr e he hb
            · rw [getD_set_ne false (by omega)] at hlx
              exact hcl x o' hx hox hlx e he hb

theorem path_of_reads {W : World} {K : Act → Prop} : ∀ (l ops : List Oper) (a : Act), Reads P W l a K → (∀ j, j < l.length → ops[j]? = l[j]?) →
    ∃ (act : Nat → Act) (val : Nat → Value), act 0 = a ∧ (∀ j o, j < l.length → ops[j]? = some o → act (j + 1) = (act j).put o.dst (val j) ∧ (execOp (act j).eval o).run P W = .ok (.value (val j)) W ∧ o.about P W (act j).eval = none) ∧ K (act l.length)
  | [], ops, a, h, _ => ⟨fun _ => a, fun _ => undef, rfl, fun j o hj => absurd hj (by simp), h⟩
  | o :: r, ops, a, ⟨v, hv, h3⟩, he => by
    obtain ⟨act, val, z, st, hk⟩ := path_of_reads r (ops.drop 1) (a.put o.dst v) h3 (fun j hj => by
      have := he (j + 1) (by simp; omega)
      simpa [Nat.add_comm] using this)
    refine ⟨fun j => match j with | 0 => a | j + 1 => act j, fun j => match j with | 0 => v | j + 1 => val j, rfl, ?_, by simpa using hk⟩
    intro j o' hj ho'
    cases j with
    | zero =>
      have := he 0 (by simp)
      rw [ho'] at this
      simp at this
      subst this
      exact ⟨z, hv⟩
    | succ j => exact st j o' (by simpa using hj) (by simpa [Nat.add_comm] using ho')

/-- **A stage of readers.** -/
theorem Upto.reads {c : Act} {W : World} (i M : Nat) (hok : stageOk ops i M = true) (h : Reads P W ((ops.drop i).take M) c (fun A => Upto F n P Q ops (i + M) A W)) : Upto F n P Q ops i c W := by
  have ok := sok_of hok
  have hlen := ok.len
  have hl : ((ops.drop i).take M).length = M := by simp; omega
  obtain ⟨act, val, z, st, hk⟩ := path_of_reads ((ops.drop i).take M) (ops.drop i) c h (fun j hj => by
    have : j < M := by rw [hl] at hj; exact hj
    rw [List.getElem?_take_of_lt this])
  rw [hl] at st hk
  intro fuel listed hsz hls hle
  let t : Path ops i c M := ⟨act, val, z, fun j o hj ho => (st j o hj (by rw [List.getElem?_drop]; exact ho)).1⟩
  refine any_of_path t ok (fun j o hj ho => (st j o hj (by rw [List.getElem?_drop]; exact ho)).2) hk fuel listed c hsz (fun j hj => (hls j (by omega)).2 hj) (fun j h1 h2 => ?_) ?_ ⟨rfl, rfl, fun j o d hj ho _ hlj => ?_, fun d _ => rfl⟩ (fun j o hj ho hlj => ?_)
  · cases hb : listed.getD j false with
    | false => rfl
    | true => have := (hls j h2).1 hb; omega
  · have := lack_le listed i M; omega
  · have := (hls (i + j) (by omega)).1 hlj; omega
  · have := (hls (i + j) (by omega)).1 hlj; omega

/-- A call that all others wait for. -/
theorem Upto.call {c : Act} {W : World} {o : Oper} {f : FuncId} {args : Array Value} (i : Nat) (hb : backOk ops = true) (hw : waitOk ops i = true) (ho : ops[i]? = some o) (hg : o.guard = none) (hp : plainOp o.op = true)
    (hab : ∀ f', o.about P W c.eval = some f' → F.fn f') (hrun : (execOp c.eval o).run P W = .ok (.enter f args) W) (h1 : F.depth.isSome = true → 1 ≤ n)
    (hcall : CallsIn F (n - 1) P f args W (fun e W' => ∃ v, e = .returned v ∧ Upto F n P Q ops (i + 1) (c.put o.dst v) W')) : Upto F n P Q ops i c W := by
  refine Upto.one i hb hw ho hg ⟨hab, ?_⟩
  have hnd : ∀ c, o.op ≠ .defer c := fun c e => by rw [e] at hp; simp [plainOp] at hp
  rw [Oper.semAt_plain F _ _ hnd, hrun, Oper.uponIn_enter]
  refine ⟨h1, hcall.mono ?_⟩
  rintro e w' ⟨v, rfl, h⟩
  exact h

/-- The rest, one behind the other. -/
def restOk (ops : List Oper) (i : Nat) : Bool := backOk ops && (List.range ops.length).all fun k => decide (k < i) || (waitOk ops k && ((ops[k]?.map fun o => o.guard.isNone).getD false))
theorem Upto.rest : ∀ (d i : Nat) {c : Act} {W : World}, i + d = ops.length → restOk ops i = true → wpListIn F n P ops.toArray Q (ops.drop i) c W → Upto F n P Q ops i c W := by
  intro d
  induction d with
  | zero =>
    intro i c W hi _ h
    rw [List.drop_eq_nil_of_le (by omega)] at h
    exact Upto.done i (by omega) h
  | succ d ih =>
    intro i c W hi hok h
    have hil : i < ops.length := by omega
    have hok' := hok
    unfold restOk at hok
    simp only [Bool.and_eq_true, List.all_eq_true, List.mem_range, Bool.or_eq_true, decide_eq_true_eq] at hok
    have h1 := (hok.2 i hil).resolve_left (by omega)
    have ho : ops[i]? = some (ops[i]'hil) := List.getElem?_eq_getElem hil
    rw [ho] at h1
    have hg : (ops[i]'hil).guard = none := by simpa using h1.2
    rw [List.drop_eq_getElem_cons hil] at h
    unfold wpListIn at h
    rw [if_pos (by simp [Region.wanted, hg])] at h
    refine Upto.one i hok.1 h1.1 ho hg (Oper.wpIn_mono (fun a' w' hq => ?_) h)
    refine ih (i + 1) (by omega) ?_ hq
    unfold restOk
    simp only [Bool.and_eq_true, List.all_eq_true, List.mem_range, Bool.or_eq_true, decide_eq_true_eq]
    refine ⟨hok.1, fun k hk => ?_⟩
    by_cases e : k < i + 1
    · exact .inl e
    · exact .inr ((hok.2 k hk).resolve_left (by omega))

/-- **The region's law.** -/
theorem region_stages {id : Nat} {c : Act} {w : World} (hm : P.follows .mixedOrders = true) (h : Upto F n P Q ops 0 c w.drew) : (Code.region id ops.toArray true).wpIn F n P Q c w := by
  refine wpIn_region_any hm ?_
  refine h _ _ (by simp) (fun j hj => ?_) (by simp)
  rw [rep_getD]; simp
end
end Go.Proofs.Yticcoacoepajpaa.V
