/-
  A region that draws its order, gone through by facts, where some operations store: what each store does to memory is known, and all other facts last through it.
-/
import Derived.Test.YticcoacoepajpaaPK10
namespace Go.Proofs.Yticcoacoepajpaa.V
open Go Go.RowKit
set_option linter.unusedVariables false
section
variable {P : Program} {Q : Exit → Act → World → Prop} {ops : List Oper}
def dstS (ops : List Oper) (i : Nat) : Option Nat := (ops[i]?).bind (·.dst)
def getT (a : Act) : Option Nat → Value
  | none => undef
  | some d => a.tmps.getD d undef
def putAllS (ops : List Oper) (u : Nat → Value) : Nat → Act → Act
  | 0, a => a
  | k + 1, a => (putAllS ops u k a).put (dstS ops k) (u k)
theorem putT_size (a : Act) (d : Option Nat) (v : Value) : (a.put d v).tmps.size = a.tmps.size := by
  cases d with
  | none => rfl
  | some d => exact put_size _ _ _
theorem putT_defs (a : Act) (d : Option Nat) (v : Value) : (a.put d v).defers = a.defers := by
  cases d with
  | none => rfl
  | some d => exact put_defs _ _ _
theorem putT_ne (a : Act) (d : Option Nat) (v : Value) (t : Nat) (h : d ≠ some t) : (a.put d v).tmps.getD t undef = a.tmps.getD t undef := by
  cases d with
  | none => rfl
  | some d => exact put_getD_ne _ _ _ _ (fun e => h (by rw [e]))
def baseOkS (ops : List Oper) (M : Nat) : Bool :=
  decide (M ≤ ops.length) && backOk ops &&
  (List.range M).all (fun j => (ops[j]?.map fun o => o.guard.isNone && plainOp o.op).getD false) &&
  (List.range M).all (fun j => (List.range M).all fun k => k == j || (dstS ops k).isNone || dstS ops k != dstS ops j) &&
  (List.range M).all (fun j => (List.range M).all fun k =>
    match ops[j]? with
    | some oj => !(oj.op.operands.toList.any fun x => match x with | .tmp t => dstS ops k == some t | _ => false) || (decide (k < j) && hasEdge oj k)
    | none => false)
structure FOkS (ops : List Oper) (M : Nat) : Prop where
  len : M ≤ ops.length
  back : backOk ops = true
  bare : ∀ (j : Nat) (o : Oper), j < M → ops[j]? = some o → o.guard = none ∧ plainOp o.op = true
  apart : ∀ (k j d : Nat), k < M → j < M → k ≠ j → dstS ops k = some d → dstS ops j ≠ some d
  data : ∀ (k j t : Nat) (oj : Oper), k < M → j < M → ops[j]? = some oj → dstS ops k = some t → Operand.tmp t ∈ oj.op.operands → k < j ∧ hasEdge oj k = true
theorem fokS_of {M : Nat} (h : baseOkS ops M = true) : FOkS ops M := by
  unfold baseOkS at h
  simp only [Bool.and_eq_true, List.all_eq_true, List.mem_range, decide_eq_true_eq] at h
  obtain ⟨⟨⟨⟨h1, h2⟩, h3⟩, h4⟩, h6⟩ := h
  refine ⟨h1, h2, fun j o hj ho => ?_, fun k j d hk hj hne hd => ?_, fun k j t oj hk hj hoj hd hmem => ?_⟩
  · have := h3 j hj
    rw [ho] at this
    simpa using this
  · have := h4 j hj k hk
    rw [hd] at this
    simp [hne] at this
    exact fun e => this e.symm
  · have := h6 j hj k hk
    rw [hoj] at this
    have hy : (oj.op.operands.toList.any fun x => match x with | .tmp t => dstS ops k == some t | _ => false) = true := by
      rw [List.any_eq_true]
      exact ⟨.tmp t, by simpa using hmem, by simp [hd]⟩
    simp only [hy, Bool.not_true, Bool.false_or, Bool.and_eq_true, decide_eq_true_eq] at this
    exact this
theorem putAllS_size (u : Nat → Value) (a : Act) : ∀ k, (putAllS ops u k a).tmps.size = a.tmps.size
  | 0 => rfl
  | k + 1 => by rw [putAllS, putT_size, putAllS_size u a k]
theorem putAllS_defs (u : Nat → Value) (a : Act) : ∀ k, (putAllS ops u k a).defers = a.defers
  | 0 => rfl
  | k + 1 => by rw [putAllS, putT_defs, putAllS_defs u a k]
theorem putAllS_far (u : Nat → Value) (a : Act) (t : Nat) : ∀ k, (∀ j, j < k → dstS ops j ≠ some t) → (putAllS ops u k a).tmps.getD t undef = a.tmps.getD t undef
  | 0, _ => rfl
  | k + 1, h => by rw [putAllS, putT_ne _ _ _ _ (h k (by omega)), putAllS_far u a t k (fun j hj => h j (by omega))]
theorem putAllS_at {M : Nat} (ok : FOkS ops M) (u : Nat → Value) (a : Act) (hts : ∀ j d, j < M → dstS ops j = some d → d < a.tmps.size) (j d : Nat) (hd : dstS ops j = some d) : ∀ k, j < k → k ≤ M → (putAllS ops u k a).tmps.getD d undef = u j
  | 0, h, _ => by omega
  | k + 1, h, hk => by
    rw [putAllS]
    by_cases e : j = k
    · subst e
      have := hts j d (by omega) hd
      rw [hd]
      simp [Act.put, putAllS_size, this]
    · rw [putT_ne _ _ _ _ (ok.apart j k d (by omega) (by omega) e hd), putAllS_at ok u a hts j d hd k (by omega) (by omega)]
theorem factS_end {M : Nat} (ok : FOkS ops M) {a0 a : Act} (hts : ∀ j d, j < M → dstS ops j = some d → d < a0.tmps.size) (hd : a.defers = a0.defers) (hs : a.tmps.size = a0.tmps.size) (hf : ∀ t, (∀ j, j < M → dstS ops j ≠ some t) → a.tmps.getD t undef = a0.tmps.getD t undef) : a = putAllS ops (fun j => getT a (dstS ops j)) M a0 := by
  refine act_ext (by rw [putAllS_defs]; exact hd) (by rw [putAllS_size]; exact hs) (fun t => ?_)
  by_cases hex : ∃ j, j < M ∧ dstS ops j = some t
  · obtain ⟨j, hj, hjt⟩ := hex
    rw [putAllS_at ok _ a0 hts j t hjt M hj (Nat.le_refl _), hjt]
    rfl
  · rw [putAllS_far _ _ _ _ (fun j hj e => hex ⟨j, hj, e⟩), hf t (fun j hj e => hex ⟨j, hj, e⟩)]
theorem wp_actS {o : Oper} {a c : Act} {w : World} {ds : List Deferred} {K : Value → World → Prop} (hdc : ∀ d, o.dst = some d → d < c.tmps.size) (hds : c.defers = ds) (he : execOp a.eval o = execOp c.eval o)
    (hQ : ∀ ch w', Q (.panic ch) c w' → Q (.panic ch) a w') (h : o.wp P c w (fun a' w' => a'.defers = ds ∧ K (getT a' o.dst) w') Q) : o.wp P a w (fun a' w' => ∃ v, a' = a.put o.dst v ∧ (o.dst = none → v = undef) ∧ K v w') Q := by
  unfold Oper.wp at *
  rw [he]
  have main : ∀ v w', K (getT (c.put o.dst v) o.dst) w' → ∃ v', a.put o.dst v = a.put o.dst v' ∧ (o.dst = none → v' = undef) ∧ K v' w' := fun v w' hk => by
    cases hd : o.dst with
    | none => rw [hd] at hk; exact ⟨undef, rfl, fun _ => rfl, hk⟩
    | some d =>
      rw [hd] at hk
      have h1 : getT (c.put (some d) v) (some d) = v := by
        have := hdc d hd
        simp [getT, Act.put, this]
      rw [h1] at hk
      exact ⟨v, rfl, (fun e => by cases e), hk⟩
  generalize (execOp c.eval o).run P w = r at *
  cases r with
  | ok n w' =>
    cases n <;> simp only [Oper.upon] at h ⊢
    case value u => exact main u w' h.2
    case skip => exact main _ w' h.2
    case defer dd =>
      have h1 := h.1
      rw [putT_defs, ← hds] at h1
      exact absurd h1 (by simp)
    case enter f args =>
      refine Calls.mono h fun e w'' he' => ?_
      cases e with
      | returned u => simp only at he' ⊢; exact main u w'' he'.2
      | panicked ch => exact hQ _ _ he'
      | outgrown => exact he'
    case row row args => exact Rows.mono h fun u w'' he' => main u w'' he'.2
  | halt x w' =>
    cases x <;> simp only [Oper.upon] at h ⊢
    case panic u => exact hQ _ _ h
/-- What holds while some of the operations have come. -/
structure FInvS (ops : List Oper) (M : Nat) (F : Nat → Value → World → Prop) (I : World → Prop) (a0 : Act) (listed : Array Bool) (a : Act) (w : World) : Prop where
  defs : a.defers = a0.defers
  size : a.tmps.size = a0.tmps.size
  far : ∀ t, (∀ j, j < M → listed.getD j false = true → dstS ops j ≠ some t) → a.tmps.getD t undef = a0.tmps.getD t undef
  inv : I w
  fact : ∀ j, j < M → listed.getD j false = true → F j (getT a (dstS ops j)) w
theorem any_factsS {a0 : Act} (M n : Nat) (F : Nat → Value → World → Prop) (I : World → Prop) (ok : FOkS ops M) (hwait : waitsAll ops M n none = true) (hts : ∀ j d, j < M → dstS ops j = some d → d < a0.tmps.size)
    (hQ : ∀ ch (a a' : Act) w', a.defers = a'.defers → Q (.panic ch) a w' → Q (.panic ch) a' w')
    (hstep : ∀ i o, i < M → ops[i]? = some o → ∀ (u : Nat → Value) (w : World), I w → (∀ j, j < i → hasEdge o j = true → F j (u j) w) →
      o.wp P (putAllS ops u i a0) w (fun a' w' => a'.defers = a0.defers ∧ F i (getT a' o.dst) w' ∧ I w' ∧ (∀ j v, j < M → j ≠ i → F j v w → F j v w')) Q)
    (hend : ∀ (u : Nat → Value) (w : World), I w → (∀ i, i < M → F i (u i) w) → UptoW P Q ops M (putAllS ops u M a0) w) :
    ∀ (fuel : Nat) (listed : Array Bool) (a : Act) (w : World), listed.size = ops.length → (∀ j, M ≤ j → j < ops.length → listed.getD j false = false) → Shutt .any ops.toArray listed → left listed M + (ops.length - M) ≤ fuel → FInvS ops M F I a0 listed a w → wpAny P .any ops.toArray Q fuel listed a w := by
  have hlen := ok.len
  intro fuel
  induction fuel with
  | zero =>
    intro listed a w hsz hno hsh hle hi
    have hz : left listed M = 0 := by omega
    have hall := left_zero listed M hz
    have hMl : M = ops.length := by omega
    have hae : a = putAllS ops (fun j => getT a (dstS ops j)) M a0 := factS_end ok hts hi.defs hi.size (fun t ht => hi.far t (fun j hj _ => ht j hj))
    rw [hae]
    exact hend _ w hi.inv (fun i hiM => hi.fact i hiM (hall i hiM)) 0 listed hsz (fun j hj => ⟨fun _ => by omega, fun h => hall j h⟩) (by omega)
  | succ fuel ih =>
    intro listed a w hsz hno hsh hle hi
    have hgt : ∀ j, j < ops.length → (listed.getD j true = false ↔ listed.getD j false = false) := fun j hj => by simp [hsz, hj]
    by_cases hz : left listed M = 0
    · have hall := left_zero listed M hz
      have hae : a = putAllS ops (fun j => getT a (dstS ops j)) M a0 := factS_end ok hts hi.defs hi.size (fun t ht => hi.far t (fun j hj _ => ht j hj))
      rw [hae]
      refine hend _ w hi.inv (fun i hiM => hi.fact i hiM (hall i hiM)) (fuel + 1) listed hsz (fun j hj => ⟨fun h => ?_, fun h => hall j h⟩) (by omega)
      by_cases hM : j < M
      · exact hM
      · rw [hno j (by omega) hj] at h; cases h
    · have hmin : ∀ k, k ≤ M → (∀ j, j < k → listed.getD j false = true) ∨ ∃ j, j < k ∧ listed.getD j false = false ∧ ∀ i, i < j → listed.getD i false = true := by
        intro k
        induction k with
        | zero => intro _; exact .inl (fun j hj => by omega)
        | succ k ihk =>
          intro hk
          rcases ihk (by omega) with h | ⟨j, hj, h⟩
          · by_cases hb : listed.getD k false = true
            · exact .inl (fun j hj => by by_cases e : j = k; (rw [e]; exact hb); exact h j (by omega))
            · exact .inr ⟨k, by omega, by simpa using hb, h⟩
          · exact .inr ⟨j, by omega, h⟩
      have hex : ∃ j, j < M ∧ listed.getD j false = false ∧ ∀ i, i < j → listed.getD i false = true := by
        rcases hmin M (Nat.le_refl _) with h | h
        · exfalso
          apply hz
          clear hz hmin hle hi
          have : ∀ k, (∀ j, j < k → listed.getD j false = true) → left listed k = 0 := by
            intro k
            induction k with
            | zero => intro _; rfl
            | succ k ihk => intro h; rw [left, ihk (fun j hj => h j (by omega)), h k (by omega)]; simp
          exact this M h
        · exact h
      obtain ⟨j0, hj0, hf0, hb0⟩ := hex
      refine ⟨fun hre => ?_, fun i hir => ?_⟩
      · exfalso
        have : j0 ∈ Region.ready .any ops.toArray listed := by
          rw [mem_ready]
          refine ⟨(hgt j0 (by omega)).2 hf0, ops[j0]'(by omega), by simp, fun e he hbd => hb0 _ (back_of ok.back j0 _ (List.getElem?_eq_getElem (by omega)) e he hbd)⟩
        rw [hre] at this
        cases this
      · obtain ⟨hun, o, ho, hr⟩ := mem_ready.1 hir
        have ho' : ops[i]? = some o := by simpa using ho
        have hil := (List.getElem?_eq_some_iff.1 ho').1
        have hun' := (hgt i hil).1 hun
        have hiM : i < M := by
          by_cases h : i < M
          · exact h
          · exfalso
            have := waits_listed hsh n i o ho hr (waits_all hwait j0 i hj0 (by simp) hil (by omega))
            rw [hf0] at this; cases this
        obtain ⟨hg, hp⟩ := ok.bare i o hiM ho'
        have hns : ∀ cs b, o.op ≠ .select cs b := fun cs b e => by rw [e] at hp; simp [plainOp] at hp
        have hod : dstS ops i = o.dst := by unfold dstS; rw [ho']; rfl
        unfold wpOp
        simp only [ho]
        rw [if_pos (by simp [Region.wanted, hg])]
        refine .inl ?_
        have hev : execOp a.eval o = execOp (putAllS ops (fun j => getT a (dstS ops j)) i a0).eval o := by
          refine execOp_congr o hns fun x hx => ?_
          cases x <;> try rfl
          rename_i t
          show a.tmps.getD t undef = (putAllS ops (fun j => getT a (dstS ops j)) i a0).tmps.getD t undef
          by_cases hex : ∃ j, j < M ∧ dstS ops j = some t
          · obtain ⟨j, hj, hjt⟩ := hex
            obtain ⟨hji, _⟩ := ok.data j i t o hj hiM ho' hjt hx
            rw [putAllS_at ok _ a0 hts j t hjt i hji (by omega), hjt]
            rfl
          · rw [putAllS_far _ _ _ _ (fun j hj e => hex ⟨j, by omega, e⟩), hi.far t (fun j hj _ e => hex ⟨j, hj, e⟩)]
        have hs := hstep i o hiM ho' (fun j => getT a (dstS ops j)) w hi.inv (fun j hji hed => by
          obtain ⟨e, he, hbd, hon⟩ := edge_of hed
          have := hr e he hbd
          rw [hon] at this
          exact hi.fact j (by omega) this)
        refine Oper.wp_mono ?_ (wp_actS (K := fun v w' => F i v w' ∧ I w' ∧ (∀ j v, j < M → j ≠ i → F j v w → F j v w')) (fun d hd => by rw [putAllS_size]; exact hts i d hiM (by rw [hod]; exact hd)) (putAllS_defs _ _ _) hev (fun ch w' h => hQ ch _ a w' (by rw [putAllS_defs]; exact hi.defs.symm) h) hs)
        rintro a' w' ⟨v, rfl, hvn, hFi, hbe, hkp⟩
        have hli : ∀ j, i ≠ j → (listed.setIfInBounds i true).getD j false = listed.getD j false := fun j hj => getD_set_ne false hj
        have hii : (listed.setIfInBounds i true).getD i false = true := by simp [hsz, hil]
        have hgj : ∀ j, j < M → i ≠ j → getT (a.put o.dst v) (dstS ops j) = getT a (dstS ops j) := fun j hj hne => by
          cases hdj : dstS ops j with
          | none => rfl
          | some t =>
            refine putT_ne _ _ _ _ ?_
            rw [← hod]
            exact ok.apart j i t hj hiM (fun e => hne e.symm) hdj
        refine ih _ _ _ (by simp [hsz]) (fun j h1 h2 => ?_) (hsh.more hir) (by have := left_set listed i (by omega) hun' M hiM; omega) ⟨?_, ?_, ?_, hbe, ?_⟩
        · rw [hli j (by omega)]; exact hno j h1 h2
        · rw [putT_defs]; exact hi.defs
        · rw [putT_size]; exact hi.size
        · intro t ht
          rw [putT_ne _ _ _ _ (by rw [← hod]; exact ht i hiM hii)]
          refine hi.far t (fun j hj hl => ht j hj ?_)
          by_cases e : i = j
          · subst e; exact hii
          · rw [hli j e]; exact hl
        · intro j hj hl
          by_cases e : i = j
          · subst e
            cases hd : o.dst with
            | none =>
              rw [hvn hd] at hFi
              rw [hod, hd]
              exact hFi
            | some d =>
              have h1 : getT (a.put o.dst v) (dstS ops i) = v := by
                have := hts i d hiM (by rw [hod]; exact hd)
                rw [hod, hd]
                simp [getT, Act.put, hi.size, this]
              rw [← hd, h1]
              exact hFi
          · rw [hgj j hj e]
            rw [hli j e] at hl
            exact hkp j _ hj (fun e2 => e e2.symm) (hi.fact j hj hl)
theorem region_factsS {id : Nat} {a0 : Act} {w0 : World} (M n : Nat) (F : Nat → Value → World → Prop) (I : World → Prop) (hm : P.follows .mixedOrders = true) (hok : baseOkS ops M = true) (hwait : waitsAll ops M n none = true) (hts : ((List.range M).all fun j => (dstS ops j).all fun d => decide (d < a0.tmps.size)) = true)
    (hQ : ∀ ch (a a' : Act) w', a.defers = a'.defers → Q (.panic ch) a w' → Q (.panic ch) a' w') (hI0 : ∀ w, Below w0.heap.size w0 w → I w)
    (hstep : ∀ i o, i < M → ops[i]? = some o → ∀ (u : Nat → Value) (w : World), I w → (∀ j, j < i → hasEdge o j = true → F j (u j) w) →
      o.wp P (putAllS ops u i a0) w (fun a' w' => a'.defers = a0.defers ∧ F i (getT a' o.dst) w' ∧ I w' ∧ (∀ j v, j < M → j ≠ i → F j v w → F j v w')) Q)
    (hend : ∀ (u : Nat → Value) (w : World), I w → (∀ i, i < M → F i (u i) w) → UptoW P Q ops M (putAllS ops u M a0) w) :
    (Code.region id ops.toArray true).wp P Q a0 w0 := by
  have ok := fokS_of hok
  refine wp_region_any hm ?_
  refine any_factsS M n F I ok hwait (fun j d hj hd => by
    rw [List.all_eq_true] at hts
    have := hts j (by simpa using hj)
    rw [hd] at this
    simpa using this) hQ hstep hend _ _ _ _ (by simp) (fun j _ _ => by rw [rep_getD]) (by simpa using Shutt.none) ?_ ⟨rfl, rfl, fun _ _ => rfl, hI0 _ (Below.refl _ _).drew, fun j _ h => ?_⟩
  · have := left_le (Array.replicate ops.toArray.size false) M
    have hl2 := ok.len
    have hl3 : ops.toArray.size = ops.length := by simp
    omega
  · rw [rep_getD] at h; cases h
/-- Stores, by their places. -/
def lkS (i : Nat) : List (Nat × (World → World → Prop)) → Option (World → World → Prop)
  | [] => none
  | x :: r => if x.1 = i then some x.2 else lkS i r
/-- What an operation does to the world. -/
def StpS (ss : List (Nat × (World → World → Prop))) (i : Nat) (w w' : World) : Prop :=
  match lkS i ss with
  | some f => f w w'
  | none => Below w.heap.size w w'
def StabS (I : World → Prop) (f : World → World → Prop) (s : Nat) : Nat → List Fact → Prop
  | _, [] => True
  | i, x :: r => (i ≠ s → ∀ v w w', I w → f w w' → x.p v w → x.p v w') ∧ StabS I f s (i + 1) r
def StabsS (I : World → Prop) (fs : List Fact) : List (Nat × (World → World → Prop)) → Prop
  | [] => True
  | x :: r => ((∀ w w', I w → x.2 w w' → I w') ∧ StabS I x.2 x.1 0 fs) ∧ StabsS I fs r
theorem stabS_at {I : World → Prop} {f : World → World → Prop} {s : Nat} : ∀ (fs : List Fact) (k : Nat), StabS I f s k fs → ∀ j v w w', k + j ≠ s → I w → f w w' → (factAt fs j).p v w → (factAt fs j).p v w'
  | [], k, _, j, v, w, w', _, _, _, _ => by simp [factAt]
  | x :: r, k, h, 0, v, w, w', hne, hi, hf, hp => by simpa [factAt] using h.1 (by simpa using hne) v w w' hi hf (by simpa [factAt] using hp)
  | x :: r, k, h, j + 1, v, w, w', hne, hi, hf, hp => by simpa [factAt] using stabS_at r (k + 1) h.2 j v w w' (by omega) hi hf (by simpa [factAt] using hp)
theorem stabsS_at {I : World → Prop} {fs : List Fact} : ∀ (ss : List (Nat × (World → World → Prop))), StabsS I fs ss → ∀ i f, lkS i ss = some f → (∀ w w', I w → f w w' → I w') ∧ ∀ j v w w', j ≠ i → I w → f w w' → (factAt fs j).p v w → (factAt fs j).p v w'
  | [], _, i, f, h => by cases h
  | x :: r, h, i, f, hl => by
    unfold lkS at hl
    split at hl
    · rename_i e
      cases hl
      subst e
      exact ⟨h.1.1, fun j v w w' hj hi hf hp => stabS_at fs 0 h.1.2 j v w w' (by omega) hi hf hp⟩
    · exact stabsS_at r h.2 i f hl
/-- Each operation makes its fact of those that it waits for. -/
def MadeS (P : Program) (Q : Exit → Act → World → Prop) (fs : List Fact) (I : World → Prop) (ss : List (Nat × (World → World → Prop))) : Nat → List Oper → ((Nat → Value) → Act) → Prop
  | _, [], _ => True
  | i, o :: r, A => (∀ (u : Nat → Value) (w : World), I w → (∀ j, j < i → hasEdge o j = true → (factAt fs j).p (u j) w) →
      o.wp P (A u) w (fun a' w' => ∃ v, a' = (A u).put o.dst v ∧ (o.dst = none → v = undef) ∧ (factAt fs i).p v w' ∧ StpS ss i w w') Q) ∧
    MadeS P Q fs I ss (i + 1) r (fun u => (A u).put o.dst (u i))
theorem putAllS_ops {M : Nat} (u : Nat → Value) (a : Act) : ∀ (l : List Oper) (i : Nat), i + l.length ≤ M → (∀ j, j < l.length → l[j]? = ops[i + j]?) → putOps u i l (putAllS ops u i a) = putAllS ops u (i + l.length) a
  | [], i, _, _ => by simp [putOps]
  | o :: r, i, hi, hl => by
    have h0 := hl 0 (by simp)
    simp only [List.getElem?_cons_zero, Nat.add_zero] at h0
    simp only [List.length_cons] at hi
    have hd : dstS ops i = o.dst := by unfold dstS; rw [← h0]; rfl
    rw [putOps]
    have := putAllS_ops (M := M) u a r (i + 1) (by omega) (fun j hj => by
      have := hl (j + 1) (by simp; omega)
      rw [List.getElem?_cons_succ] at this
      rw [this]; congr 1; omega)
    rw [putAllS, hd] at this
    rw [this, List.length_cons]; congr 1; omega
theorem madeS_at {M : Nat} {fs : List Fact} {I : World → Prop} {ss : List (Nat × (World → World → Prop))} {a0 : Act} (hts : ∀ j d, j < M → dstS ops j = some d → d < a0.tmps.size) : ∀ (l : List Oper) (i : Nat) (A : (Nat → Value) → Act), i + l.length ≤ M → (∀ j, j < l.length → l[j]? = ops[i + j]?) → (∀ u, A u = putAllS ops u i a0) → MadeS P Q fs I ss i l A →
    ∀ k o, i ≤ k → k < i + l.length → ops[k]? = some o → ∀ (u : Nat → Value) (w : World), I w → (∀ j, j < k → hasEdge o j = true → (factAt fs j).p (u j) w) →
      o.wp P (putAllS ops u k a0) w (fun a' w' => a'.defers = a0.defers ∧ (factAt fs k).p (getT a' o.dst) w' ∧ StpS ss k w w') Q
  | [], i, A, _, _, _, _, k, o, h1, h2, _ => by simp at h2; omega
  | o' :: r, i, A, hi, hl, hA, hM, k, o, h1, h2, ho => by
    have h0 := hl 0 (by simp)
    simp only [List.getElem?_cons_zero, Nat.add_zero] at h0
    simp only [List.length_cons] at hi h2
    by_cases e : k = i
    · subst e
      rw [ho] at h0
      obtain rfl := Option.some.inj h0
      intro u w hb hd
      have := hM.1 u w hb hd
      rw [hA u] at this
      refine Oper.wp_mono ?_ this
      rintro a' w' ⟨v, rfl, q0, q1, q2⟩
      refine ⟨by rw [putT_defs, putAllS_defs], ?_, q2⟩
      cases hd' : o'.dst with
      | none => rw [q0 hd'] at q1; exact q1
      | some d =>
        have h9 := hts k d (by omega) (by unfold dstS; rw [ho]; exact hd')
        have h8 : getT ((putAllS ops u k a0).put (some d) v) (some d) = v := by simp [getT, Act.put, putAllS_size, h9]
        rw [h8]
        exact q1
    · refine madeS_at (M := M) hts r (i + 1) _ (by omega) (fun j hj => ?_) (fun u => ?_) hM.2 k o (by omega) (by omega) ho
      · have := hl (j + 1) (by simp; omega)
        rw [List.getElem?_cons_succ] at this
        rw [this]; congr 1; omega
      · have hd : dstS ops i = o'.dst := by unfold dstS; rw [← h0]; rfl
        rw [hA u, putAllS, hd]
def GoodsB : List Fact → Prop
  | [] => True
  | f :: r => (∀ v w w', f.p v w → Below w.heap.size w w' → f.p v w') ∧ GoodsB r
theorem goodsB_at : ∀ (fs : List Fact) (i : Nat), GoodsB fs → ∀ v w w', (factAt fs i).p v w → Below w.heap.size w w' → (factAt fs i).p v w'
  | [], i, _ => by simp [factAt]
  | f :: r, 0, h => by simpa [factAt] using h.1
  | f :: r, i + 1, h => by simpa [factAt] using goodsB_at r i h.2
/-- **The region's law, where some operations store.** -/
theorem region_madeS {id : Nat} {a0 : Act} {w0 : World} (M n : Nat) (fs : List Fact) (I : World → Prop) (ss : List (Nat × (World → World → Prop))) (hm : P.follows .mixedOrders = true) (hok : (baseOkS ops M && waitsAll ops M n none) = true) (hts : ((List.range M).all fun j => (dstS ops j).all fun d => decide (d < a0.tmps.size)) = true)
    (hQ : ∀ ch (a a' : Act) w', a.defers = a'.defers → Q (.panic ch) a w' → Q (.panic ch) a' w') (hI0 : ∀ w, Below w0.heap.size w0 w → I w) (hIB : ∀ w w', I w → Below w.heap.size w w' → I w') (hgood : GoodsB fs) (hstab : StabsS I fs ss)
    (hstep : MadeS P Q fs I ss 0 (ops.take M) (fun _ => a0))
    (hend : ∀ (u : Nat → Value) (w : World), I w → (∀ i, i < M → (factAt fs i).p (u i) w) → UptoW P Q ops M (putOps u 0 (ops.take M) a0) w) :
    (Code.region id ops.toArray true).wp P Q a0 w0 := by
  rw [Bool.and_eq_true] at hok
  have ok := fokS_of hok.1
  have hlen := ok.len
  have hts' : ∀ j d, j < M → dstS ops j = some d → d < a0.tmps.size := fun j d hj hd => by
    rw [List.all_eq_true] at hts
    have := hts j (by simpa using hj)
    rw [hd] at this
    simpa using this
  have hl : (ops.take M).length = M := by simp; omega
  have htk : ∀ j, j < (ops.take M).length → (ops.take M)[j]? = ops[0 + j]? := fun j hj => by rw [hl] at hj; rw [List.getElem?_take_of_lt hj, Nat.zero_add]
  refine region_factsS M n (fun i => (factAt fs i).p) I hm hok.1 hok.2 hts hQ hI0 (fun i o hi ho u w hb hd => ?_) (fun u w hb hf => ?_)
  · refine Oper.wp_mono ?_ (madeS_at (M := M) hts' (ops.take M) 0 (fun _ => a0) (by omega) htk (fun _ => rfl) hstep i o (by omega) (by omega) ho u w hb hd)
    rintro a' w' ⟨h1, h2, h3⟩
    unfold StpS at h3
    cases hk : lkS i ss with
    | none =>
      rw [hk] at h3
      simp only at h3
      exact ⟨h1, h2, hIB _ _ hb h3, fun j v _ _ hp => goodsB_at fs j hgood v _ _ hp h3⟩
    | some f =>
      rw [hk] at h3
      simp only at h3
      have hs := stabsS_at ss hstab i f hk
      exact ⟨h1, h2, hs.1 _ _ hb h3, fun j v _ hne hp => hs.2 j v _ _ hne hb h3 hp⟩
  · have := putAllS_ops (ops := ops) (M := M) u a0 (ops.take M) 0 (by omega) htk
    rw [hl, Nat.zero_add] at this
    rw [← this]
    exact hend u w hb hf
theorem stpS_of {ss : List (Nat × (World → World → Prop))} {i : Nat} {w w' : World} (h : lkS i ss = none) (hb : Below w.heap.size w w') : StpS ss i w w' := by
  unfold StpS
  rw [h]
  exact hb
theorem stpS_at {ss : List (Nat × (World → World → Prop))} {i : Nat} {w w' : World} {f : World → World → Prop} (h : lkS i ss = some f) (hb : f w w') : StpS ss i w w' := by
  unfold StpS
  rw [h]
  exact hb
end
end Go.Proofs.Yticcoacoepajpaa.V
