/-
  Rooms: where things are laid: the mathematics.
-/
import Derived.Test.YtnncalhpbfmgoaaRmPut
import Derived.Test.YtnncalhpbfmgoaaRmFrom
namespace Go.Proofs.Ytnncalhpbfmgoaa.V
set_option linter.unusedVariables false

def takes (x : Lf) : Bool := decide (0 < x.wd) && decide (x.fr < x.to)
theorem takes_iff {x : Lf} : takes x = true ↔ 0 < x.wd ∧ x.fr < x.to := by simp [takes]
abbrev lifeAt (ls : List Lf) (k : Nat) : Lf := ls[k]?.getD lfD
abbrev numAt (l : List Int) (k : Nat) : Int := l[k]?.getD 0
/-- Where all lie, the shelf, and how much that is. -/
structure LSt where
  at_ : List Int
  sh : List Ld
  en : Int
def stepL (ls : List Lf) (s : LSt) (k : Nat) : LSt :=
  if takes (lifeAt ls k) = true then
    ⟨s.at_.set k (gapV (lifeAt ls k).wd (s.sh.filter (stays (lifeAt ls k).fr)) 0).2, insL (s.sh.filter (stays (lifeAt ls k).fr)) (gapV (lifeAt ls k).wd (s.sh.filter (stays (lifeAt ls k).fr)) 0).1 ⟨lifeAt ls k, (gapV (lifeAt ls k).wd (s.sh.filter (stays (lifeAt ls k).fr)) 0).2⟩, max s.en ((gapV (lifeAt ls k).wd (s.sh.filter (stays (lifeAt ls k).fr)) 0).2 + (lifeAt ls k).wd)⟩
  else s
def layS (ls : List Lf) (os : List Nat) : LSt := os.foldl (stepL ls) ⟨List.replicate ls.length 0, [], 0⟩
theorem gap_ok (n : Int) (hn : 0 < n) : ∀ (sh : List Ld) (a : Int), (∀ x ∈ sh, a ≤ x.at_ ∧ 0 < x.lf.wd) → sh.Pairwise (fun x y => x.at_ + x.lf.wd ≤ y.at_) →
    (gapV n sh a).1 ≤ sh.length ∧ a ≤ (gapV n sh a).2 ∧ (∀ x ∈ sh.take (gapV n sh a).1, x.at_ + x.lf.wd ≤ (gapV n sh a).2) ∧ (∀ x ∈ sh.drop (gapV n sh a).1, (gapV n sh a).2 + n ≤ x.at_) ∧ ((gapV n sh a).2 = a ∨ ∃ x ∈ sh, (gapV n sh a).2 = x.at_ + x.lf.wd) ∧
    ∀ p, a ≤ p → (∀ x ∈ sh, p + n ≤ x.at_ ∨ x.at_ + x.lf.wd ≤ p) → (gapV n sh a).2 ≤ p
  | [], a, _, _ => by simp [gapV]
  | x :: xs, a, h, hp => by
    rw [List.pairwise_cons] at hp
    have hx := h x (by simp)
    by_cases c : a + n ≤ x.at_
    · have e : gapV n (x :: xs) a = (0, a) := by rw [gapV, if_pos c]
      rw [e]
      refine ⟨by simp, Int.le_refl _, by simp, fun y hy => ?_, .inl rfl, fun p hp _ => hp⟩
      simp only [List.drop_zero, List.mem_cons] at hy
      rcases hy with rfl | hy
      · exact c
      · have := hp.1 y hy; simp only; omega
    · have ih := gap_ok n hn xs (x.at_ + x.lf.wd) (fun y hy => ⟨hp.1 y hy, (h y (by simp [hy])).2⟩) hp.2
      have e : gapV n (x :: xs) a = ((gapV n xs (x.at_ + x.lf.wd)).1 + 1, (gapV n xs (x.at_ + x.lf.wd)).2) := by rw [gapV, if_neg c]
      rw [e]
      obtain ⟨i1, i2, i3, i4, i5, i6⟩ := ih
      refine ⟨by simp; omega, by simp only; omega, fun y hy => ?_, fun y hy => ?_, ?_, fun p h1 h2 => ?_⟩
      · simp only [List.take_succ_cons, List.mem_cons] at hy
        rcases hy with rfl | hy
        · exact i2
        · exact i3 y hy
      · simp only [List.drop_succ_cons] at hy
        exact i4 y hy
      · rcases i5 with i5 | ⟨y, hy, i5⟩
        · exact .inr ⟨x, by simp, i5⟩
        · exact .inr ⟨y, by simp [hy], i5⟩
      · have hx2 := h2 x (by simp)
        exact i6 p (by omega) (fun y hy => h2 y (by simp [hy]))
theorem gap_tight (c : Int) (hc : 0 < c) : ∀ (sh : List Ld) (a : Int), (∀ x ∈ sh, a ≤ x.at_ ∧ x.lf.wd = c ∧ c ∣ (x.at_ - a)) → sh.Pairwise (fun x y => x.at_ + x.lf.wd ≤ y.at_) → (gapV c sh a).2 = a + c * ((gapV c sh a).1 : Int)
  | [], a, _, _ => by simp [gapV]
  | x :: xs, a, h, hp => by
    rw [List.pairwise_cons] at hp
    obtain ⟨h1, h2, h3⟩ := h x (by simp)
    by_cases cc : a + c ≤ x.at_
    · rw [gapV, if_pos cc]; simp
    · have hxa : x.at_ = a := by
        obtain ⟨m, hm⟩ := h3
        have : m < 1 := by
          apply Decidable.byContradiction
          intro hge
          have : c * 1 ≤ c * m := Int.mul_le_mul_of_nonneg_left (by omega) (by omega)
          omega
        have : ¬ m < 0 := fun hlt => by
          have : c * m < 0 := Int.mul_neg_of_pos_of_neg hc hlt
          omega
        have : m = 0 := by omega
        subst this
        omega
      have ih := gap_tight c hc xs (x.at_ + x.lf.wd) (fun y hy => ⟨hp.1 y hy, (h y (by simp [hy])).2.1, by
        have := (h y (by simp [hy])).2.2
        rw [hxa, h2]
        have e : y.at_ - (a + c) = (y.at_ - a) - c := by omega
        rw [e]
        exact Int.dvd_sub this (Int.dvd_refl c)⟩) hp.2
      rw [gapV, if_neg cc]
      simp only
      rw [ih, hxa, h2]
      have : (((gapV c xs (a + c)).1 + 1 : Nat) : Int) = ((gapV c xs (a + c)).1 : Int) + 1 := by omega
      rw [this, Int.mul_add]
      omega
theorem perm_sum {a b : List Int} (h : a.Perm b) : a.sum = b.sum := by
  induction h with
  | nil => rfl
  | cons _ _ ih => simp [ih]
  | swap => simp; omega
  | trans _ _ h1 h2 => omega
theorem sum_range (f : Lf → Int) (ls : List Lf) : ((List.range ls.length).map (fun m => f (lifeAt ls m))).sum = (ls.map f).sum := by
  congr 1
  apply List.ext_getElem?
  intro i
  by_cases h : i < ls.length <;> simp [h, lifeAt]
theorem needed_ord {ls : List Lf} {os : List Nat} (h : Ord ls os) (t : Int) : (os.map (fun m => atT t (lifeAt ls m))).sum = needed ls t := by
  unfold needed
  rw [← sum_range]
  exact perm_sum (h.perm.map _)
theorem insL_mem {L : List Ld} {k : Nat} {x y : Ld} : y ∈ insL L k x ↔ y = x ∨ y ∈ L := by
  unfold insL
  have : y ∈ L ↔ y ∈ L.take k ∨ y ∈ L.drop k := by
    rw [← List.mem_append, List.take_append_drop]
  rw [this]
  simp only [List.mem_append, List.mem_cons]
  constructor
  · rintro (h | h | h)
    · exact .inr (.inl h)
    · exact .inl h
    · exact .inr (.inr h)
  · rintro (h | h | h)
    · exact .inr (.inl h)
    · exact .inl h
    · exact .inr (.inr h)
theorem insL_sum (L : List Ld) (k : Nat) (x : Ld) (f : Ld → Int) : ((insL L k x).map f).sum = f x + (L.map f).sum := by
  unfold insL
  have : (L.map f).sum = ((L.take k).map f).sum + ((L.drop k).map f).sum := by
    rw [← List.sum_append, ← List.map_append, List.take_append_drop]
  rw [this]
  simp
  omega
theorem insL_pair {L : List Ld} {k : Nat} {x : Ld} (h : L.Pairwise (fun a b => a.at_ + a.lf.wd ≤ b.at_)) (h1 : ∀ y ∈ L.take k, y.at_ + y.lf.wd ≤ x.at_) (h2 : ∀ y ∈ L.drop k, x.at_ + x.lf.wd ≤ y.at_) : (insL L k x).Pairwise (fun a b => a.at_ + a.lf.wd ≤ b.at_) := by
  unfold insL
  rw [← List.take_append_drop k L, List.pairwise_append] at h
  rw [List.pairwise_append, List.pairwise_cons]
  refine ⟨h.1, ⟨h2, h.2.1⟩, fun a ha b hb => ?_⟩
  rcases List.mem_cons.1 hb with rfl | hb
  · exact h1 a ha
  · exact h.2.2 a ha b hb
/-- What stands while things are laid. -/
structure LInv (ls : List Lf) (pre : List Nat) (s : LSt) : Prop where
  len : s.at_.length = ls.length
  en0 : 0 ≤ s.en
  enB : s.en ≤ 1048576 * pre.length
  disj : s.sh.Pairwise (fun a b => a.at_ + a.lf.wd ≤ b.at_)
  ok : ∀ x ∈ s.sh, LfOk x.lf ∧ 0 < x.lf.wd ∧ 0 ≤ x.at_ ∧ x.at_ + x.lf.wd ≤ s.en
  few : s.sh.length ≤ pre.length
  none_ : ∀ k, k ∉ pre ∨ takes (lifeAt ls k) = false → numAt s.at_ k = 0
  placed : ∀ k ∈ pre, takes (lifeAt ls k) = true → 0 ≤ numAt s.at_ k ∧ numAt s.at_ k + (lifeAt ls k).wd ≤ s.en
  on : ∀ k ∈ pre, takes (lifeAt ls k) = true → (⟨lifeAt ls k, numAt s.at_ k⟩ : Ld) ∈ s.sh ∨ ∃ m ∈ pre, (lifeAt ls k).to ≤ (lifeAt ls m).fr
  from_ : ∀ x ∈ s.sh, ∃ k ∈ pre, takes (lifeAt ls k) = true ∧ x = ⟨lifeAt ls k, numAt s.at_ k⟩
  apart : ∀ i ∈ pre, ∀ k ∈ pre, i ≠ k → takes (lifeAt ls i) = true → takes (lifeAt ls k) = true → (lifeAt ls i).fr < (lifeAt ls k).to → (lifeAt ls k).fr < (lifeAt ls i).to → numAt s.at_ i + (lifeAt ls i).wd ≤ numAt s.at_ k ∨ numAt s.at_ k + (lifeAt ls k).wd ≤ numAt s.at_ i
  sum : ∀ t, (∀ m ∈ pre, (lifeAt ls m).fr ≤ t) → (pre.map (fun m => atT t (lifeAt ls m))).sum = (s.sh.map (fun x => if t < x.lf.to then x.lf.wd else 0)).sum
theorem LInv.start (ls : List Lf) : LInv ls [] ⟨List.replicate ls.length 0, [], 0⟩ where
  len := by simp
  en0 := by simp
  enB := by simp
  disj := by simp
  ok := by simp
  few := by simp
  none_ := fun k _ => by
    show (List.replicate ls.length (0 : Int))[k]?.getD 0 = 0
    by_cases h : k < ls.length <;> simp [h]
  placed := by simp
  on := by simp
  from_ := by simp
  apart := by simp
  sum := by simp
theorem numAt_set {l : List Int} {k i : Nat} {v : Int} (h : k < l.length) : numAt (l.set k v) i = if i = k then v else numAt l i := by
  show (l.set k v)[i]?.getD 0 = _
  by_cases e : i = k
  · subst e; simp [h]
  · rw [List.getElem?_set_ne (by omega), if_neg e]
theorem filter_sum (T t : Int) (h : T ≤ t) : ∀ L : List Ld, ((L.filter (stays T)).map (fun x => if t < x.lf.to then x.lf.wd else 0)).sum = (L.map (fun x => if t < x.lf.to then x.lf.wd else 0)).sum
  | [] => rfl
  | x :: L => by
    have ih := filter_sum T t h L
    by_cases c : stays T x = true
    · rw [List.filter_cons_of_pos c]; simp [ih]
    · rw [List.filter_cons_of_neg c, ih]
      simp [stays, gone] at c
      rw [List.map_cons, List.sum_cons, if_neg (by omega)]
      omega
theorem LInv.step {ls : List Lf} {pre : List Nat} {s : LSt} (h : LInv ls pre s) {k : Nat} (hok : ∀ x ∈ ls, LfOk x) (hk : k < ls.length) (hn : k ∉ pre) (hf : ∀ m ∈ pre, (lifeAt ls m).fr ≤ (lifeAt ls k).fr) : LInv ls (pre ++ [k]) (stepL ls s k) ∧ s.en ≤ (stepL ls s k).en := by
  have hq : LfOk (lifeAt ls k) := hok _ (mem_getLf ls k hk)
  by_cases ht : takes (lifeAt ls k) = true
  · obtain ⟨t1, t2⟩ := takes_iff.1 ht
    obtain ⟨sh, hsh⟩ : ∃ sh, sh = s.sh.filter (stays (lifeAt ls k).fr) := ⟨_, rfl⟩
    have hmem : ∀ x ∈ sh, x ∈ s.sh ∧ (lifeAt ls k).fr < x.lf.to := fun x hx => by
      rw [hsh, List.mem_filter] at hx
      simp [stays, gone] at hx
      exact hx
    have hdj : sh.Pairwise (fun a b => a.at_ + a.lf.wd ≤ b.at_) := by rw [hsh]; exact h.disj.filter _
    obtain ⟨g1, g2, g3, g4, g5, g6⟩ := gap_ok (lifeAt ls k).wd t1 sh 0 (fun x hx => ⟨(h.ok x (hmem x hx).1).2.2.1, (h.ok x (hmem x hx).1).2.1⟩) hdj
    have hst : stepL ls s k = ⟨s.at_.set k (gapV (lifeAt ls k).wd sh 0).2, insL sh (gapV (lifeAt ls k).wd sh 0).1 ⟨lifeAt ls k, (gapV (lifeAt ls k).wd sh 0).2⟩, max s.en ((gapV (lifeAt ls k).wd sh 0).2 + (lifeAt ls k).wd)⟩ := by
      unfold stepL; rw [if_pos ht, hsh]
    have hgb : (gapV (lifeAt ls k).wd sh 0).2 ≤ s.en := by
      rcases g5 with g5 | ⟨x, hx, g5⟩
      · rw [g5]; exact h.en0
      · rw [g5]; exact (h.ok x (hmem x hx).1).2.2.2
    rw [hst]
    generalize (gapV (lifeAt ls k).wd sh 0).2 = a at *
    generalize (gapV (lifeAt ls k).wd sh 0).1 = r at *
    have hkl : k < s.at_.length := by rw [h.len]; exact hk
    have old : ∀ m, m ∈ pre → numAt (s.at_.set k a) m = numAt s.at_ m := fun m hm => by rw [numAt_set hkl, if_neg (fun (e : m = k) => hn (e ▸ hm))]
    have new : numAt (s.at_.set k a) k = a := by rw [numAt_set hkl, if_pos rfl]
    have hpl := hq.w1
    have shk : ∀ i ∈ pre, takes (lifeAt ls i) = true → (lifeAt ls k).fr < (lifeAt ls i).to → (⟨lifeAt ls i, numAt s.at_ i⟩ : Ld) ∈ sh := fun i hi hti hto => by
      rcases h.on i hi hti with h1 | ⟨m, hm, h1⟩
      · rw [hsh, List.mem_filter]
        refine ⟨h1, ?_⟩
        simp [stays, gone]
        exact hto
      · have := hf m hm
        omega
    have ap : ∀ i ∈ pre, takes (lifeAt ls i) = true → (lifeAt ls k).fr < (lifeAt ls i).to → numAt s.at_ i + (lifeAt ls i).wd ≤ a ∨ a + (lifeAt ls k).wd ≤ numAt s.at_ i := fun i hi hti hto => by
      have h1 := shk i hi hti hto
      rw [← List.take_append_drop r sh] at h1
      rcases List.mem_append.1 h1 with h1 | h1
      · exact .inl (g3 _ h1)
      · exact .inr (g4 _ h1)
    refine ⟨⟨by simp [h.len], by have := h.en0; simp only; omega, by have := h.enB; simp only [List.length_append, List.length_singleton]; omega, insL_pair hdj g3 g4, fun x hx => ?_, ?_, fun i hi => ?_, fun i hi hti => ?_, fun i hi hti => ?_, fun x hx => ?_, fun i hi j hj hij hti htj h1 h2 => ?_, fun t htm => ?_⟩, by simp only; omega⟩
    · rcases insL_mem.1 hx with rfl | hx
      · exact ⟨hq, t1, g2, by simp only; omega⟩
      · have := h.ok x (hmem x hx).1
        exact ⟨this.1, this.2.1, this.2.2.1, by have := this.2.2.2; simp only; omega⟩
    · rw [insL_len sh r _ g1, List.length_append]
      have h1 := h.few
      have h2 : sh.length ≤ s.sh.length := by rw [hsh]; exact List.length_filter_le _ _
      simp only [List.length_singleton]
      omega
    · have hik : i ≠ k := by
        rintro rfl
        rcases hi with hi | hi
        · exact hi (by simp)
        · rw [ht] at hi; cases hi
      rw [numAt_set hkl, if_neg hik]
      refine h.none_ i ?_
      rcases hi with hi | hi
      · exact .inl (fun e => hi (by simp [e]))
      · exact .inr hi
    · rcases List.mem_append.1 hi with hi | hi
      · rw [old i hi]
        have := h.placed i hi hti
        simp only
        omega
      · simp at hi; subst hi
        rw [new]
        simp only
        omega
    · rcases List.mem_append.1 hi with hi | hi
      · rw [old i hi]
        rcases h.on i hi hti with h1 | ⟨m, hm, h1⟩
        · by_cases c : (lifeAt ls k).fr < (lifeAt ls i).to
          · exact .inl (insL_mem.2 (.inr (shk i hi hti c)))
          · exact .inr ⟨k, by simp, by omega⟩
        · exact .inr ⟨m, by simp [hm], h1⟩
      · simp at hi; subst hi
        rw [new]
        exact .inl (insL_mem.2 (.inl rfl))
    · rcases insL_mem.1 hx with rfl | hx
      · exact ⟨k, by simp, ht, by rw [new]⟩
      · obtain ⟨i, hi, hti, e⟩ := h.from_ x (hmem x hx).1
        exact ⟨i, by simp [hi], hti, by rw [old i hi]; exact e⟩
    · rcases List.mem_append.1 hi with hi' | hi'
      · rw [old i hi']
        rcases List.mem_append.1 hj with hj' | hj'
        · rw [old j hj']
          exact h.apart i hi' j hj' hij hti htj h1 h2
        · have e : j = k := by simpa using hj'
          rw [e] at h2 ⊢
          rw [new]
          exact ap i hi' hti h2
      · have e : i = k := by simpa using hi'
        rw [e] at h1 ⊢
        rw [new]
        rcases List.mem_append.1 hj with hj' | hj'
        · rw [old j hj']
          exact (ap j hj' htj h1).symm
        · have e2 : j = k := by simpa using hj'
          exact absurd (e.trans e2.symm) hij
    · have hft := htm k (by simp)
      have h1 := h.sum t (fun m hm => htm m (by simp [hm]))
      rw [List.map_append, List.sum_append, h1, insL_sum, hsh, filter_sum _ _ hft]
      simp only [List.map_cons, List.map_nil, List.sum_cons, List.sum_nil, atT]
      by_cases c : t < (lifeAt ls k).to
      · rw [if_pos ⟨hft, c⟩, if_pos c]; omega
      · rw [if_neg (by omega), if_neg c]; omega
  · have htf : takes (lifeAt ls k) = false := by simpa using ht
    have hst : stepL ls s k = s := by unfold stepL; rw [if_neg ht]
    rw [hst]
    refine ⟨⟨h.len, h.en0, by have := h.enB; simp only [List.length_append, List.length_singleton]; omega, h.disj, h.ok, by have := h.few; simp only [List.length_append]; omega, fun i hi => ?_, fun i hi hti => ?_, fun i hi hti => ?_, fun x hx => ?_, fun i hi j hj hij hti htj h1 h2 => ?_, fun t htm => ?_⟩, Int.le_refl _⟩
    · by_cases e : i = k
      · subst e; exact h.none_ i (.inl hn)
      · refine h.none_ i ?_
        rcases hi with hi | hi
        · exact .inl (fun e => hi (by simp [e]))
        · exact .inr hi
    · rcases List.mem_append.1 hi with hi | hi
      · exact h.placed i hi hti
      · simp at hi; subst hi; rw [htf] at hti; cases hti
    · rcases List.mem_append.1 hi with hi | hi
      · rcases h.on i hi hti with h1 | ⟨m, hm, h1⟩
        · exact .inl h1
        · exact .inr ⟨m, by simp [hm], h1⟩
      · simp at hi; subst hi; rw [htf] at hti; cases hti
    · obtain ⟨i, hi, hti, e⟩ := h.from_ x hx
      exact ⟨i, by simp [hi], hti, e⟩
    · rcases List.mem_append.1 hi with hi | hi
      · rcases List.mem_append.1 hj with hj | hj
        · exact h.apart i hi j hj hij hti htj h1 h2
        · simp at hj; subst hj; rw [htf] at htj; cases htj
      · simp at hi; subst hi; rw [htf] at hti; cases hti
    · have hft := htm k (by simp)
      have h1 := h.sum t (fun m hm => htm m (by simp [hm]))
      rw [List.map_append, List.sum_append, h1]
      simp only [List.map_cons, List.map_nil, List.sum_cons, List.sum_nil, atT]
      have h0 := hq.w0
      simp [takes] at htf
      by_cases c : (lifeAt ls k).fr ≤ t ∧ t < (lifeAt ls k).to
      · rw [if_pos c]
        have : (lifeAt ls k).wd = 0 := by
          apply Decidable.byContradiction
          intro hne
          have := htf (by omega)
          omega
        omega
      · rw [if_neg c]; omega
/-- All that has been laid by and by. -/
theorem lay_inv {ls : List Lf} {os : List Nat} (ho : Ord ls os) (hok : ∀ x ∈ ls, LfOk x) : ∀ (rest pre : List Nat), os = pre ++ rest → LInv ls pre (layS ls pre) → LInv ls os (layS ls os) ∧ (layS ls pre).en ≤ (layS ls os).en
  | [], pre, e, h => by
    rw [List.append_nil] at e
    subst e
    exact ⟨h, Int.le_refl _⟩
  | k :: rest, pre, e, h => by
    have hs := ho.sorted
    rw [e, List.pairwise_append, List.pairwise_cons] at hs
    have hnd : os.Nodup := ho.perm.nodup_iff.2 List.nodup_range
    rw [e, List.nodup_append] at hnd
    have hk : k < ls.length := by
      have : k ∈ os := by rw [e]; simp
      simpa using ho.perm.mem_iff.1 this
    have hst := h.step hok hk (fun hm => hnd.2.2 k hm k (by simp) rfl) (fun m hm => by
      have := hs.2.2 m hm k (by simp)
      unfold befL at this
      show (lifeAt ls m).fr ≤ (lifeAt ls k).fr
      simp only [lifeAt]
      omega)
    have e2 : layS ls (pre ++ [k]) = stepL ls (layS ls pre) k := by simp [layS]
    have := lay_inv ho hok rest (pre ++ [k]) (by rw [e]; simp) (by rw [e2]; exact hst.1)
    refine ⟨this.1, Int.le_trans ?_ this.2⟩
    rw [e2]
    exact hst.2
theorem lay_all {ls : List Lf} {os : List Nat} (ho : Ord ls os) (hok : ∀ x ∈ ls, LfOk x) : LInv ls os (layS ls os) := (lay_inv ho hok os [] rfl (LInv.start ls)).1
theorem lay_pre {ls : List Lf} {os : List Nat} (ho : Ord ls os) (hok : ∀ x ∈ ls, LfOk x) : ∀ (pre rest : List Nat), os = pre ++ rest → LInv ls pre (layS ls pre) := by
  have : ∀ (n : Nat) (pre rest : List Nat), pre.length = n → os = pre ++ rest → LInv ls pre (layS ls pre) := fun n => by
    induction n with
    | zero =>
      intro pre rest hl _
      obtain rfl := List.length_eq_zero_iff.1 hl
      exact LInv.start ls
    | succ n ih =>
      intro pre rest hl e
      have hne : pre ≠ [] := by intro h; rw [h] at hl; simp at hl
      obtain ⟨p, k, rfl⟩ : ∃ p k, pre = p ++ [k] := ⟨pre.dropLast, pre.getLast hne, (List.dropLast_concat_getLast hne).symm⟩
      have e1 : os = p ++ (k :: rest) := by rw [e]; simp
      have h := ih p (k :: rest) (by simpa using hl) e1
      have hs := ho.sorted
      rw [e1, List.pairwise_append, List.pairwise_cons] at hs
      have hnd : os.Nodup := ho.perm.nodup_iff.2 List.nodup_range
      rw [e1, List.nodup_append] at hnd
      have hk : k < ls.length := by
        have : k ∈ os := by rw [e1]; simp
        simpa using ho.perm.mem_iff.1 this
      have hst := h.step hok hk (fun hm => hnd.2.2 k hm k (by simp) rfl) (fun m hm => by
        have := hs.2.2 m hm k (by simp)
        unfold befL at this
        show (lifeAt ls m).fr ≤ (lifeAt ls k).fr
        simp only [lifeAt]
        omega)
      have e2 : layS ls (p ++ [k]) = stepL ls (layS ls p) k := by simp [layS]
      rw [e2]
      exact hst.1
  exact fun pre rest e => this _ pre rest rfl e
theorem row_sum : ∀ (L : List Ld) (a E : Int), (∀ x ∈ L, a ≤ x.at_ ∧ 0 < x.lf.wd ∧ x.at_ + x.lf.wd ≤ E) → a ≤ E → L.Pairwise (fun a b => a.at_ + a.lf.wd ≤ b.at_) → (L.map (fun x => x.lf.wd)).sum ≤ E - a
  | [], a, E, _, h, _ => by simp; omega
  | x :: L, a, E, h, h2, hp => by
    rw [List.pairwise_cons] at hp
    have hx := h x (by simp)
    have ih := row_sum L (x.at_ + x.lf.wd) E (fun y hy => ⟨hp.1 y hy, (h y (by simp [hy])).2⟩) hx.2.2 hp.2
    simp only [List.map_cons, List.sum_cons]
    omega
theorem sum_if_le (t : Int) : ∀ (L : List Ld), (∀ x ∈ L, 0 < x.lf.wd) → (L.map (fun x => if t < x.lf.to then x.lf.wd else 0)).sum ≤ (L.map (fun x => x.lf.wd)).sum
  | [], _ => by simp
  | x :: L, h => by
    have h1 := h x (by simp)
    have ih := sum_if_le t L (fun y hy => h y (by simp [hy]))
    simp only [List.map_cons, List.sum_cons]
    split <;> omega
/-- All that is needed at one time is within what is said. -/
theorem load_le {ls : List Lf} {os : List Nat} (ho : Ord ls os) (hok : ∀ x ∈ ls, LfOk x) : loadV ls ≤ (layS ls os).en := by
  have hall := lay_all ho hok
  refine foldmax_le _ _ ls 0 hall.en0 (fun x hx => ?_)
  obtain ⟨t, ht⟩ : ∃ t, t = x.fr := ⟨_, rfl⟩
  rw [← ht]
  have e : os = os.takeWhile (fun m => decide ((lifeAt ls m).fr ≤ t)) ++ os.dropWhile (fun m => decide ((lifeAt ls m).fr ≤ t)) := List.takeWhile_append_dropWhile.symm
  generalize ha : os.takeWhile (fun m => decide ((lifeAt ls m).fr ≤ t)) = a at e
  generalize hb : os.dropWhile (fun m => decide ((lifeAt ls m).fr ≤ t)) = b at e
  have h1 : ∀ m ∈ a, (lifeAt ls m).fr ≤ t := fun m hm => by
    rw [← ha] at hm
    have := List.all_eq_true.1 (List.all_takeWhile (p := fun m => decide ((lifeAt ls m).fr ≤ t)) (l := os)) m hm
    simpa using this
  have h2 : ∀ m ∈ b, t < (lifeAt ls m).fr := fun m hm => by
    rcases b with _ | ⟨d, b⟩
    · simp at hm
    · have hd : ¬ (lifeAt ls d).fr ≤ t := by
        have := List.head?_dropWhile_not (fun m => decide ((lifeAt ls m).fr ≤ t)) os
        rw [hb] at this
        simpa using this
      have hs := ho.sorted
      rw [e, List.pairwise_append, List.pairwise_cons] at hs
      rcases List.mem_cons.1 hm with rfl | hm
      · omega
      · have := hs.2.1.1 m hm
        unfold befL at this
        show t < (lifeAt ls m).fr
        simp only [lifeAt] at hd ⊢
        omega
  have hi := lay_pre ho hok a b e
  have hm := (lay_inv ho hok b a e hi).2
  have hsum := hi.sum t h1
  have hn := needed_ord ho t
  rw [e, List.map_append, List.sum_append, hsum] at hn
  have hz : (b.map (fun m => atT t (lifeAt ls m))).sum = 0 := by
    have : ∀ l : List Nat, (∀ m ∈ l, t < (lifeAt ls m).fr) → (l.map (fun m => atT t (lifeAt ls m))).sum = 0 := fun l => by
      induction l with
      | nil => intro _; rfl
      | cons m l ih =>
        intro hl
        have h3 := hl m (by simp)
        simp only [List.map_cons, List.sum_cons, ih (fun y hy => hl y (by simp [hy]))]
        unfold atT
        rw [if_neg (by omega)]; rfl
    exact this b h2
  have h3 := sum_if_le t (layS ls a).sh (fun x hx => (hi.ok x hx).2.1)
  have h4 := row_sum (layS ls a).sh 0 (layS ls a).en (fun x hx => ⟨(hi.ok x hx).2.2.1, (hi.ok x hx).2.1, (hi.ok x hx).2.2.2⟩) hi.en0 hi.disj
  omega
/-- INTERVALS ARE PERFECT. -/
theorem tight {ls : List Lf} {os : List Nat} (ho : Ord ls os) (hok : ∀ x ∈ ls, LfOk x) (c : Int) (hc : ∀ x ∈ ls, x.wd = c) : (layS ls os).en ≤ loadV ls := by
  have key : ∀ (n : Nat) (pre rest : List Nat), pre.length = n → os = pre ++ rest → (layS ls pre).en ≤ loadV ls ∧ ∀ x ∈ (layS ls pre).sh, c ∣ x.at_ := fun n => by
    induction n with
    | zero =>
      intro pre rest hl _
      obtain rfl := List.length_eq_zero_iff.1 hl
      exact ⟨load_nonneg ls, by simp [layS]⟩
    | succ n ih =>
      intro pre rest hl e
      have hne : pre ≠ [] := by intro h; rw [h] at hl; simp at hl
      obtain ⟨p, k, rfl⟩ : ∃ p k, pre = p ++ [k] := ⟨pre.dropLast, pre.getLast hne, (List.dropLast_concat_getLast hne).symm⟩
      have e1 : os = p ++ (k :: rest) := by rw [e]; simp
      obtain ⟨i1, i2⟩ := ih p (k :: rest) (by simpa using hl) e1
      have hi := lay_pre ho hok p (k :: rest) e1
      have hi2 := lay_pre ho hok (p ++ [k]) rest e
      have hs := ho.sorted
      rw [e1, List.pairwise_append, List.pairwise_cons] at hs
      have hk : k < ls.length := by
        have : k ∈ os := by rw [e1]; simp
        simpa using ho.perm.mem_iff.1 this
      have hfr : ∀ m ∈ p ++ [k], (lifeAt ls m).fr ≤ (lifeAt ls k).fr := fun m hm => by
        rcases List.mem_append.1 hm with hm | hm
        · have := hs.2.2 m hm k (by simp)
          unfold befL at this
          simp only [lifeAt]
          omega
        · simp at hm; rw [hm]; exact Int.le_refl _
      have e2 : layS ls (p ++ [k]) = stepL ls (layS ls p) k := by simp [layS]
      by_cases ht : takes (lifeAt ls k) = true
      · obtain ⟨t1, t2⟩ := takes_iff.1 ht
        have hwc : (lifeAt ls k).wd = c := hc _ (mem_getLf ls k hk)
        have hsum := hi2.sum (lifeAt ls k).fr hfr
        obtain ⟨sh, hsh⟩ : ∃ sh, sh = (layS ls p).sh.filter (stays (lifeAt ls k).fr) := ⟨_, rfl⟩
        have hmem : ∀ x ∈ sh, x ∈ (layS ls p).sh ∧ (lifeAt ls k).fr < x.lf.to := fun x hx => by
          rw [hsh, List.mem_filter] at hx
          simp [stays, gone] at hx
          exact hx
        have hst : stepL ls (layS ls p) k = ⟨(layS ls p).at_.set k (gapV (lifeAt ls k).wd sh 0).2, insL sh (gapV (lifeAt ls k).wd sh 0).1 ⟨lifeAt ls k, (gapV (lifeAt ls k).wd sh 0).2⟩, max (layS ls p).en ((gapV (lifeAt ls k).wd sh 0).2 + (lifeAt ls k).wd)⟩ := by
          unfold stepL; rw [if_pos ht, hsh]
        have hwd : ∀ x ∈ (layS ls p).sh, x.lf.wd = c := fun x hx => by
          obtain ⟨i, hi', _, rfl⟩ := hi.from_ x hx
          have : i ∈ os := by rw [e1]; simp [hi']
          exact hc _ (mem_getLf ls i (by simpa using ho.perm.mem_iff.1 this))
        have hdj : sh.Pairwise (fun a b => a.at_ + a.lf.wd ≤ b.at_) := by rw [hsh]; exact hi.disj.filter _
        have g1 := (gap_ok (lifeAt ls k).wd t1 sh 0 (fun x hx => ⟨(hi.ok x (hmem x hx).1).2.2.1, (hi.ok x (hmem x hx).1).2.1⟩) hdj).1
        have gt := gap_tight c (by omega) sh 0 (fun x hx => ⟨(hi.ok x (hmem x hx).1).2.2.1, hwd x (hmem x hx).1, by rw [Int.sub_zero]; exact i2 x (hmem x hx).1⟩) hdj
        rw [hwc] at hst g1
        rw [e2, hst] at hsum
        rw [e2, hst]
        simp only at hsum ⊢
        rw [insL_sum] at hsum
        have hss : ∀ L : List Ld, (∀ x ∈ L, x.lf.wd = c ∧ (lifeAt ls k).fr < x.lf.to) → (L.map (fun x => if (lifeAt ls k).fr < x.lf.to then x.lf.wd else 0)).sum = c * (L.length : Int) := fun L => by
          induction L with
          | nil => intro _; simp
          | cons x L ih2 =>
            intro hL
            have hx := hL x (by simp)
            simp only [List.map_cons, List.sum_cons, ih2 (fun y hy => hL y (by simp [hy])), List.length_cons]
            rw [if_pos hx.2, hx.1]
            have : ((L.length + 1 : Nat) : Int) = (L.length : Int) + 1 := by omega
            rw [this, Int.mul_add]
            omega
        rw [hss sh (fun x hx => ⟨hwd x (hmem x hx).1, (hmem x hx).2⟩), if_pos t2, hwc] at hsum
        have hle : ((p ++ [k]).map (fun m => atT (lifeAt ls k).fr (lifeAt ls m))).sum ≤ needed ls (lifeAt ls k).fr := by
          rw [← needed_ord ho, e, List.map_append (l₁ := p ++ [k]), List.sum_append]
          have : ∀ l : List Nat, (∀ m ∈ l, m ∈ os) → 0 ≤ (l.map (fun m => atT (lifeAt ls k).fr (lifeAt ls m))).sum := fun l => by
            induction l with
            | nil => intro _; simp
            | cons m l ih2 =>
              intro hl
              have h3 := hok _ (mem_getLf ls m (by simpa using ho.perm.mem_iff.1 (hl m (by simp))))
              have h4 := ih2 (fun y hy => hl y (by simp [hy]))
              have h5 : 0 ≤ atT (lifeAt ls k).fr (lifeAt ls m) := by unfold atT; have := h3.w0; split <;> omega
              simp only [List.map_cons, List.sum_cons]
              omega
          have := this rest (fun m hm => by rw [e]; simp [hm])
          omega
        have hnl := needed_le_load hok (lifeAt ls k).fr
        have hmul : c * ((gapV c sh 0).1 : Int) ≤ c * (sh.length : Int) := Int.mul_le_mul_of_nonneg_left (by omega) (by omega)
        refine ⟨by omega, fun x hx => ?_⟩
        rcases insL_mem.1 hx with rfl | hx
        · simp only
          rw [gt, Int.zero_add]
          exact Int.dvd_mul_right _ _
        · exact i2 x (hmem x hx).1
      · have hst : stepL ls (layS ls p) k = layS ls p := by unfold stepL; rw [if_neg ht]
        rw [e2, hst]
        exact ⟨i1, i2⟩
  exact (key _ os [] rfl (by simp)).1
end Go.Proofs.Ytnncalhpbfmgoaa.V
