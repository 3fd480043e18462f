/-
  The document's way of laying: the mathematics.
-/
import Derived.Test.YtcnnghhaohehoaaRmRef2
import Derived.Test.YtcnnghhaohehoaaRmLay
namespace Go.Proofs.Ytcnnghhaohehoaa.V
set_option linter.unusedVariables false

def doneF (os : List Nat) (j k : Nat) : Bool := decide (k ∈ os.take j)
def liesF (ls : List Lf) (os : List Nat) (j k : Nat) : Bool := decide (k ∈ os.take j) && takes (lifeAt ls k)
theorem free_iff {ls : List Lf} {pre : List Nat} {s : LSt} (h : LInv ls pre s) {i : Nat} (hpl : ∀ m ∈ pre, m < ls.length) (hf : ∀ m ∈ pre, (lifeAt ls m).fr ≤ (lifeAt ls i).fr) (ht : takes (lifeAt ls i) = true) (p : Int) :
    freeB ls s.at_ (fun k => decide (k ∈ pre) && takes (lifeAt ls k)) i p = true ↔ ∀ x ∈ s.sh.filter (stays (lifeAt ls i).fr), p + (lifeAt ls i).wd ≤ x.at_ ∨ x.at_ + x.lf.wd ≤ p := by
  obtain ⟨t1, t2⟩ := takes_iff.1 ht
  unfold freeB
  rw [List.all_eq_true]
  constructor
  · intro hall x hx
    rw [List.mem_filter] at hx
    obtain ⟨k, hk, htk, rfl⟩ := h.from_ x hx.1
    obtain ⟨k1, k2⟩ := takes_iff.1 htk
    have hto : (lifeAt ls i).fr < (lifeAt ls k).to := by
      have := hx.2
      simp [stays, gone] at this
      exact this
    have h1 := hall k (by simpa using hpl k hk)
    have hfk := hf k hk
    have hm : meetB (lifeAt ls i) (lifeAt ls k) = true := by
      unfold meetB
      simp only [Bool.and_eq_true, decide_eq_true_eq]
      refine ⟨⟨⟨⟨⟨t1, k1⟩, t2⟩, k2⟩, hto⟩, by omega⟩
    unfold inWay at h1
    simp only at h1
    rw [decide_eq_true hk, htk, hm] at h1
    simp at h1
    exact h1.symm
  · intro hall k hk
    cases hin : inWay ls s.at_ (fun k => decide (k ∈ pre) && takes (lifeAt ls k)) i p k
    · rfl
    · exfalso
      unfold inWay at hin
      simp only [Bool.and_eq_true, decide_eq_true_eq] at hin
      obtain ⟨⟨⟨⟨hkp, htk⟩, hm⟩, c1⟩, c2⟩ := hin
      unfold meetB at hm
      simp only [Bool.and_eq_true, decide_eq_true_eq] at hm
      have hto := hm.1.2
      rcases h.on k hkp htk with h1 | ⟨m, hm', h1⟩
      · have := hall ⟨lifeAt ls k, numAt s.at_ k⟩ (by
          rw [List.mem_filter]
          refine ⟨h1, ?_⟩
          simp [stays, gone]
          exact hto)
        simp only at this
        omega
      · have := hf m hm'
        omega
/-- The one to be laid next, among those below k. -/
def Sel (ls : List Lf) (D : Nat → Bool) (k : Nat) (i : Int) : Prop := (i = -1 ∧ ∀ q, q < k → D q = true) ∨ ∃ m : Nat, i = m ∧ m < k ∧ D m = false ∧ ∀ q, q < k → D q = false → q ≠ m → befL ls m q
theorem Sel.start (ls : List Lf) (D : Nat → Bool) : Sel ls D 0 (-1) := .inl ⟨rfl, fun q h => by omega⟩
theorem Sel.done {ls : List Lf} {D : Nat → Bool} {k : Nat} {i : Int} (h : Sel ls D k i) (hd : D k = true) : Sel ls D (k + 1) i := by
  rcases h with ⟨rfl, h⟩ | ⟨m, rfl, h1, h2, h3⟩
  · refine .inl ⟨rfl, fun q hq => ?_⟩
    by_cases e : q = k
    · rw [e]; exact hd
    · exact h q (by omega)
  · refine .inr ⟨m, rfl, by omega, h2, fun q hq hq2 hne => ?_⟩
    by_cases e : q = k
    · rw [e, hd] at hq2; cases hq2
    · exact h3 q (by omega) hq2 hne
theorem Sel.first {ls : List Lf} {D : Nat → Bool} {k : Nat} (h : Sel ls D k (-1)) (hd : D k = false) : Sel ls D (k + 1) k := by
  rcases h with ⟨_, h⟩ | ⟨m, e, _⟩
  · refine .inr ⟨k, rfl, by omega, hd, fun q hq hq2 hne => ?_⟩
    rw [h q (by omega)] at hq2
    cases hq2
  · omega
theorem Sel.less {ls : List Lf} {D : Nat → Bool} {k m : Nat} (h : Sel ls D k m) (hd : D k = false) (hl : (lifeAt ls k).fr < (lifeAt ls m).fr) : Sel ls D (k + 1) k := by
  rcases h with ⟨e, _⟩ | ⟨m', e, h1, h2, h3⟩
  · omega
  · obtain rfl : m = m' := by omega
    refine .inr ⟨k, rfl, by omega, hd, fun q hq hq2 hne => ?_⟩
    simp only [lifeAt] at hl
    by_cases e2 : q = m
    · subst e2; exact .inl hl
    · have := h3 q (by omega) hq2 e2
      unfold befL at this ⊢
      omega
theorem Sel.more {ls : List Lf} {D : Nat → Bool} {k m : Nat} (h : Sel ls D k m) (hd : D k = false) (hl : ¬ (lifeAt ls k).fr < (lifeAt ls m).fr) : Sel ls D (k + 1) m := by
  rcases h with ⟨e, _⟩ | ⟨m', e, h1, h2, h3⟩
  · omega
  · obtain rfl : m = m' := by omega
    refine .inr ⟨m, rfl, by omega, h2, fun q hq hq2 hne => ?_⟩
    simp only [lifeAt] at hl
    by_cases e2 : q = k
    · subst e2
      unfold befL
      omega
    · exact h3 q (by omega) hq2 hne
theorem Sel.end_ {ls : List Lf} {os : List Nat} (ho : Ord ls os) {j : Nat} (hj : j < os.length) {i : Int} (h : Sel ls (doneF os j) ls.length i) : i = ((os[j]?.getD 0 : Nat) : Int) := by
  have hol : os.length = ls.length := by rw [ho.perm.length_eq]; simp
  have hnd : os.Nodup := ho.perm.nodup_iff.2 List.nodup_range
  obtain ⟨k, hk⟩ : ∃ k, k = os[j]?.getD 0 := ⟨_, rfl⟩
  rw [← hk]
  have e0 : os = os.take j ++ k :: os.drop (j + 1) := by
    rw [hk]; simp [hj]
  rw [e0, List.nodup_append] at hnd
  have hs := ho.sorted
  rw [e0, List.pairwise_append, List.pairwise_cons] at hs
  have hkd : doneF os j k = false := by
    unfold doneF
    rw [decide_eq_false_iff_not]
    intro hm
    exact hnd.2.2 k hm k (by simp) rfl
  have hkl : k < ls.length := by
    have : k ∈ os := by rw [e0]; simp
    simpa using ho.perm.mem_iff.1 this
  rcases h with ⟨_, h⟩ | ⟨m, rfl, h1, h2, h3⟩
  · rw [h k hkl] at hkd; cases hkd
  · by_cases e : k = m
    · rw [e]
    · exfalso
      have hb := h3 k hkl hkd e
      have hm : m ∈ os := ho.perm.mem_iff.2 (by simpa using h1)
      rw [e0] at hm
      have hmd : m ∉ os.take j := by
        unfold doneF at h2
        simpa using h2
      rcases List.mem_append.1 hm with hm | hm
      · exact hmd hm
      · rcases List.mem_cons.1 hm with hm | hm
        · exact e hm.symm
        · have := hs.2.1.1 m hm
          unfold befL at hb this
          omega
/-- The lowest place of those that were tried. -/
def Bst (Fr : Int → Bool) (e : Nat → Int) (li : Nat → Bool) (k : Nat) (b : Int) : Prop := (b = -1 ∧ Fr 0 = false ∧ ∀ q, q < k → li q = true → Fr (e q) = false) ∨ ((0 ≤ b ∧ b ≤ 8589934592) ∧ Fr b = true ∧ (Fr 0 = true → b = 0) ∧ ∀ q, q < k → li q = true → Fr (e q) = true → b ≤ e q)
theorem Bst.start_yes {Fr : Int → Bool} {e : Nat → Int} {li : Nat → Bool} (h : Fr 0 = true) : Bst Fr e li 0 0 := .inr ⟨by omega, h, fun _ => rfl, fun q h => by omega⟩
theorem Bst.start_no {Fr : Int → Bool} {e : Nat → Int} {li : Nat → Bool} (h : Fr 0 = false) : Bst Fr e li 0 (-1) := .inl ⟨rfl, h, fun q h => by omega⟩
theorem Bst.skip {Fr : Int → Bool} {e : Nat → Int} {li : Nat → Bool} {k : Nat} {b : Int} (h : Bst Fr e li k b) (hl : li k = true → Fr (e k) = true → (0 ≤ b ∧ b ≤ e k)) : Bst Fr e li (k + 1) b := by
  rcases h with ⟨rfl, h1, h2⟩ | ⟨h1, h2, h3, h4⟩
  · refine .inl ⟨rfl, h1, fun q hq hlq => ?_⟩
    by_cases c : q = k
    · subst c
      cases hF : Fr (e q)
      · rfl
      · have := (hl hlq hF).1; omega
    · exact h2 q (by omega) hlq
  · refine .inr ⟨h1, h2, h3, fun q hq hlq hF => ?_⟩
    by_cases c : q = k
    · subst c; exact (hl hlq hF).2
    · exact h4 q (by omega) hlq hF
theorem Bst.take {Fr : Int → Bool} {e : Nat → Int} {li : Nat → Bool} {k : Nat} {b : Int} (h : Bst Fr e li k b) (hF : Fr (e k) = true) (he : 0 ≤ e k ∧ e k ≤ 8589934592) (hb : b < 0 ∨ e k < b) : Bst Fr e li (k + 1) (e k) := by
  rcases h with ⟨rfl, h1, h2⟩ | ⟨h1, h2, h3, h4⟩
  · refine .inr ⟨he, hF, fun h0 => (by rw [h1] at h0; cases h0), fun q hq hlq hFq => ?_⟩
    by_cases c : q = k
    · subst c; exact Int.le_refl _
    · rw [h2 q (by omega) hlq] at hFq; cases hFq
  · refine .inr ⟨he, hF, fun h0 => (by have := h3 h0; omega), fun q hq hlq hFq => ?_⟩
    by_cases c : q = k
    · subst c; exact Int.le_refl _
    · have := h4 q (by omega) hlq hFq
      omega
theorem Bst.end_ {Fr : Int → Bool} {e : Nat → Int} {li : Nat → Bool} {k : Nat} {b G : Int} (h : Bst Fr e li k b) (g1 : Fr G = true) (g2 : ∀ p, 0 ≤ p → Fr p = true → G ≤ p) (g3 : G = 0 ∨ ∃ q, q < k ∧ li q = true ∧ G = e q) : b = G := by
  rcases h with ⟨rfl, h1, h2⟩ | ⟨h1, h2, h3, h4⟩
  · rcases g3 with rfl | ⟨q, hq, hl, rfl⟩
    · rw [h1] at g1; cases g1
    · rw [h2 q hq hl] at g1; cases g1
  · have a1 := g2 b h1.1 h2
    rcases g3 with rfl | ⟨q, hq, hl, rfl⟩
    · exact h3 g1
    · have := h4 q hq hl g1
      omega
/-- The gap that the shelf has is the lowest free place. -/
theorem gap_best {ls : List Lf} {pre : List Nat} {s : LSt} (h : LInv ls pre s) {i : Nat} (hpl : ∀ m ∈ pre, m < ls.length) (hf : ∀ m ∈ pre, (lifeAt ls m).fr ≤ (lifeAt ls i).fr) (ht : takes (lifeAt ls i) = true) :
    freeB ls s.at_ (fun k => decide (k ∈ pre) && takes (lifeAt ls k)) i (gapV (lifeAt ls i).wd (s.sh.filter (stays (lifeAt ls i).fr)) 0).2 = true ∧
    (∀ p, 0 ≤ p → freeB ls s.at_ (fun k => decide (k ∈ pre) && takes (lifeAt ls k)) i p = true → (gapV (lifeAt ls i).wd (s.sh.filter (stays (lifeAt ls i).fr)) 0).2 ≤ p) ∧
    ((gapV (lifeAt ls i).wd (s.sh.filter (stays (lifeAt ls i).fr)) 0).2 = 0 ∨ ∃ q, q < ls.length ∧ (decide (q ∈ pre) && takes (lifeAt ls q)) = true ∧ (gapV (lifeAt ls i).wd (s.sh.filter (stays (lifeAt ls i).fr)) 0).2 = numAt s.at_ q + (lifeAt ls q).wd) := by
  obtain ⟨t1, t2⟩ := takes_iff.1 ht
  obtain ⟨g1, g2, g3, g4, g5, g6⟩ := gap_ok (lifeAt ls i).wd t1 (s.sh.filter (stays (lifeAt ls i).fr)) 0 (fun x hx => ⟨(h.ok x (List.mem_filter.1 hx).1).2.2.1, (h.ok x (List.mem_filter.1 hx).1).2.1⟩) (h.disj.filter _)
  refine ⟨(free_iff h hpl hf ht _).2 (fun x hx => ?_), fun p h0 hp => g6 p h0 ((free_iff h hpl hf ht p).1 hp), ?_⟩
  · rw [← List.take_append_drop (gapV (lifeAt ls i).wd (s.sh.filter (stays (lifeAt ls i).fr)) 0).1 (s.sh.filter (stays (lifeAt ls i).fr))] at hx
    rcases List.mem_append.1 hx with hx | hx
    · exact .inr (g3 x hx)
    · exact .inl (g4 x hx)
  · rcases g5 with g5 | ⟨x, hx, g5⟩
    · exact .inl g5
    · obtain ⟨k, hk, htk, rfl⟩ := h.from_ x (List.mem_filter.1 hx).1
      exact .inr ⟨k, hpl k hk, by rw [decide_eq_true hk, htk]; rfl, g5⟩
end Go.Proofs.Ytcnnghhaohehoaa.V
